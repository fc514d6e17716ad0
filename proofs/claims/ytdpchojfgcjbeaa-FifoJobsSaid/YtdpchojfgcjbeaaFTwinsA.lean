/- What FifoTwins has in memory, phase by phase: boxes, a queue, its twin, a row of numbers; what each step keeps; the law's own same; no condition but those that each row names. -/
import Derived.Test.YtdpchojfgcjbeaaFPut
import Derived.Test.YtdpchojfgcjbeaaFTwin
import Derived.Test.YtdpchojfgcjbeaaFSame
import Derived.Test.YtdpchojfgcjbeaaFList
import Derived.Test.YtdpchojfgcjbeaaFWorks
namespace Go.Proofs.Ytdpchojfgcjbeaa
open Go.RowKit

theorem below_alloc {B : Nat} {a w : World} (h : Below B a w) (hB : B ≤ w.heap.size) (o : Obj) : Below B a (w.alloc o) := h.alloc hB o
/-- A block of another type is none of a queue's own. -/
theorem PQ.other {T E : TypeId} {k B : Nat} {w : World} {A : Qu} {b : Nat} {s : Value} (h : PQ T E k B w A b s) {X : Nat} {cs : Array Value} {t : TypeId} {fr : Nat × Nat} (hX : w.heap[X]? = some (.cells cs t fr)) (hT : t ≠ T) (hE : t ≠ E) : ¬ (X = b ∨ s.ownBlock = some X) := by
  rintro (rfl | e)
  · rw [h.blk] at hX; cases hX; exact hT rfl
  · rcases h.own.2 with ⟨rfl, _⟩ | ⟨g, cap, cur, rfl, _, hg, _⟩
    · simp [Value.ownBlock] at e
    · simp [Value.ownBlock] at e
      subst e
      rw [hg] at hX; cases hX; exact hE rfl
theorem PQ.box {T E : TypeId} {k B : Nat} {w w' : World} {A : Qu} {b : Nat} {s : Value} (h : PQ T E k B w A b s) (hk : Keeps (fun x => x = b ∨ s.ownBlock = some x) w w') {X : Nat} {t : TypeId} {u : Value} (hX : Boxed w X t u) (hT : t ≠ T) (hE : t ≠ E) : Boxed w' X t u :=
  (hk.block X hX.lt (h.other hX hT hE)).trans hX
theorem PQ.row {T E : TypeId} {k B : Nat} {w w' : World} {A : Qu} {b : Nat} {s : Value} (h : PQ T E k B w A b s) (hk : Keeps (fun x => x = b ∨ s.ownBlock = some x) w w') {B' e z n : Nat} {v : Value} {xs : List Value} (ho : w.ownsRow B' e z v n xs) (hT : e ≠ T) (hE : e ≠ E) : w'.ownsRow B' e z v n xs := by
  refine own_keeps ho hk (fun g e1 => ?_)
  rcases ho.2 with ⟨rfl, _⟩ | ⟨g', cap, cur, rfl, _, hg, _⟩
  · simp [Value.ownBlock] at e1
  · simp [Value.ownBlock] at e1
    subst e1
    exact h.other hg hT hE
theorem PQ.base {T E : TypeId} {k B B0 : Nat} {w : World} {A : Qu} {b : Nat} {s : Value} (h : PQ T E k B w A b s) (hB : B0 ≤ B) : PQ T E k B0 w A b s :=
  ⟨h.blk, ⟨h.own.1, h.own.2.imp id (fun ⟨g, cap, cur, e, hb, r⟩ => ⟨g, cap, cur, e, Nat.le_trans hB hb, r⟩)⟩, Nat.le_trans hB h.hb, h.ne⟩
theorem box_below {w w' : World} {X : Nat} {t : TypeId} {u : Value} (h : Boxed w X t u) (hb : Below w.heap.size w w') : Boxed w' X t u := (hb.block X h.lt).trans h

/-- The boxes and the queue. -/
structure TS (w : World) (v : Int) (W : World) (A : Qu) (s : Value) : Prop where
  bel : Below w.heap.size w W
  bv : Boxed W w.heap.size 3 (.int .i64 v)
  br : Boxed W (w.heap.size + 1) 4 (.bool false)
  bq : Boxed W (w.heap.size + 3) 23 (.pointer (some ⟨w.heap.size + 2, 0, none⟩))
  q : PQ QT_I ET_I 1 w.heap.size W A (w.heap.size + 2) s
  good : A.Good 1
theorem TS.below {w W W' : World} {v : Int} {A : Qu} {s : Value} (h : TS w v W A s) (hb : Below W.heap.size W W') : TS w v W' A s :=
  ⟨bnext h.bel hb, box_below h.bv hb, box_below h.br hb, box_below h.bq hb, h.q.below hb, h.good⟩
theorem TS.step {w W W' : World} {v : Int} {A A' : Qu} {s s' : Value} (h : TS w v W A s) (hk : Keeps (fun x => x = w.heap.size + 2 ∨ s.ownBlock = some x) W W') (hq : PQ QT_I ET_I 1 w.heap.size W' A' (w.heap.size + 2) s') (hA : A'.Good 1) : TS w v W' A' s' :=
  ⟨h.bel.trans (h.q.under hk), h.q.box hk h.bv (by decide) (by decide), h.q.box hk h.br (by decide) (by decide), h.q.box hk h.bq (by decide) (by decide), hq, hA⟩
theorem TS.qat {w W : World} {v : Int} {A : Qu} {s : Value} (h : TS w v W A s) {L : List Int} (e : A.l.map (·.1) = ints L) : Qat_I W (some ⟨w.heap.size + 2, 0, none⟩) A.limit L :=
  .inr ⟨_, _, s, A, rfl, h.q, h.good, rfl, e⟩

/-- The twin beside it. -/
structure TT (w : World) (W : World) (s : Value) (At : Qu) (bt : Nat) (st : Value) : Prop where
  t : PQ QT_I ET_I 1 w.heap.size W At bt st
  good : At.Good 1
  apart : ∀ x, (x = w.heap.size + 2 ∨ s.ownBlock = some x) → ¬ (x = bt ∨ st.ownBlock = some x)
theorem TT.below {w W W' : World} {s st : Value} {At : Qu} {bt : Nat} (h : TT w W s At bt st) (hb : Below W.heap.size W W') : TT w W' s At bt st := ⟨h.t.below hb, h.good, h.apart⟩
theorem TT.step {w W W' : World} {s s' st : Value} {At : Qu} {bt : Nat} (h : TT w W s At bt st) (hk : Keeps (fun x => x = w.heap.size + 2 ∨ s.ownBlock = some x) W W') (hs : ∀ g, s'.ownBlock = some g → s.ownBlock = some g ∨ W.heap.size ≤ g) : TT w W' s' At bt st := by
  refine ⟨h.t.keeps hk (fun e => h.apart bt e (.inl rfl)) (fun g e1 e2 => h.apart g e2 (.inr e1)), h.good, ?_⟩
  rintro x (rfl | e) hx
  · exact h.apart _ (.inl rfl) hx
  · rcases hs x e with e' | e'
    · exact h.apart x (.inr e') hx
    · rcases hx with rfl | e2
      · have := h.t.lt; omega
      · have := (h.t.own.lt x e2).2; omega
theorem TT.qat {w W : World} {s st : Value} {At : Qu} {bt : Nat} (h : TT w W s At bt st) {L : List Int} (e : At.l.map (·.1) = ints L) : Qat_I W (some ⟨bt, 0, none⟩) At.limit L :=
  .inr ⟨_, _, st, At, rfl, h.t, h.good, rfl, e⟩

theorem TT.made {w W W' : World} {v : Int} {A : Qu} {s : Value} (h : TS w v W A s) {bt : Nat} {st : Value} (ht : PQ QT_I ET_I 1 W.heap.size W' A bt st) : TT w W' s A bt st := by
  refine ⟨ht.base h.bel.size, h.good, ?_⟩
  have hb := ht.hb
  have hl := h.q.lt
  rintro x (rfl | e) (e2 | e2)
  · omega
  · have := (ht.own.lt _ e2).1; omega
  · subst e2; have := (h.q.own.lt _ e).2; omega
  · have := (h.q.own.lt _ e).2; have := (ht.own.lt _ e2).1; omega
theorem TS.twin {w W W' : World} {v : Int} {A At : Qu} {s st : Value} {bt : Nat} (h : TS w v W A s) (ht : TT w W s At bt st) (hk : Keeps (fun x => x = bt ∨ st.ownBlock = some x) W W') : TS w v W' A s :=
  ⟨h.bel.trans (ht.t.under hk), ht.t.box hk h.bv (by decide) (by decide), ht.t.box hk h.br (by decide) (by decide), ht.t.box hk h.bq (by decide) (by decide),
    h.q.keeps hk (ht.apart _ (.inl rfl)) (fun g e => ht.apart g (.inr e)), h.good⟩
/-- What a queue's own steps turn are cells. -/
theorem PQ.others {T E : TypeId} {k B B0 : Nat} {w w' : World} {A : Qu} {b : Nat} {s : Value} (h : PQ T E k B w A b s) (hk : Keeps (fun x => x = b ∨ s.ownBlock = some x) w w') : KeepsFrom B0 w w' := by
  refine ⟨hk.size, fun j o _ hj ho => (hk.block j (lt_of_block hj) ?_).trans hj⟩
  rintro (rfl | e)
  · rw [h.blk] at hj; cases hj; cases ho
  · rcases h.own.2 with ⟨rfl, _⟩ | ⟨g, cap, cur, rfl, _, hg, _⟩
    · simp [Value.ownBlock] at e
    · simp [Value.ownBlock] at e
      subst e
      rw [hg] at hj; cases hj; cases ho
theorem box_turn {W W' : World} {X : Nat} {t : TypeId} {u : Value} {row : Option Nat} (h : Boxed W X t u) (hg : W.grownBy W' row) (hr : ∀ r, row = some r → ∃ o : Obj, W.heap[r]? = some o ∧ o.isCells = false) : Boxed W' X t u := by
  refine h.kept hg fun e => ?_
  obtain ⟨o, h1, h2⟩ := hr X e.symm
  rw [show W.heap[X]? = _ from h] at h1; cases h1; cases h2
/-- While the queue is gone over: its boxes, how many rounds there were, what it holds. -/
def TwI (w : World) (v : Int) (mb : Nat) (L0 L1 : List Int) (k : Nat) (W : World) : Prop :=
  (∃ A s, TS w v W A s ∧ A.limit = L1.length + 1 ∧ A.last ≤ (if k = 0 then L0 else L1).length ∧ A.l.map (·.1) = ints (if k = 0 then L0 else L1)) ∧ (Boxed W mb 3 (.int .i64 k) ∧ Boxed W (mb + 1) 23 (.pointer (some ⟨w.heap.size + 2, 0, none⟩))) ∧ k ≤ (if k = 0 then L0 else L1).length ∧ w.heap.size + 4 ≤ mb
theorem twI_own (w : World) (v : Int) (mb : Nat) (L0 L1 : List Int) (B : Nat) (hB : w.heap.size ≤ B) : OwnFrom B (TwI w v mb L0 L1) := by
  rintro k W W' row ⟨⟨A, s, h, hl⟩, ⟨h1, h2⟩, h3⟩ hg hr
  have hr' : ∀ r, row = some r → ∃ o : Obj, W.heap[r]? = some o ∧ o.isCells = false := fun r e => (hr r e).2
  refine ⟨⟨A, s, ⟨h.bel.grown hg (Nat.le_trans (Nat.le_refl _) h.bel.size) (fun j e => Nat.le_trans hB (hr j e).1), box_turn h.bv hg hr', box_turn h.br hg hr', box_turn h.bq hg hr', h.q.turn hg hr', h.good⟩, hl⟩, ⟨box_turn h1 hg hr', box_turn h2 hg hr'⟩, h3⟩
theorem TS.met {w W : World} {v : Int} {A : Qu} {s : Value} {mb : Nat} {u : Value} (h : TS w v W A s) (hm : Boxed W mb 3 u) (hmb : w.heap.size + 4 ≤ mb) (u' : Value) : TS w v (W.setCell ⟨mb, 0, none⟩ u') A s := by
  have ho := h.q.other hm (by decide) (by decide)
  have hk : Keeps (fun x => x = mb) W (W.setCell ⟨mb, 0, none⟩ u') := (Keeps.refl _ W).setCell _ _ (.inl rfl)
  exact ⟨h.bel.setCell (p := ⟨mb, 0, none⟩) (by simp; omega) _, h.bv.other (by omega) _, h.br.other (by omega) _, h.bq.other (by omega) _,
    h.q.keeps hk (fun e => ho (.inl e.symm)) (fun g e1 e2 => ho (.inr (by subst e2; exact e1))), h.good⟩
/-- Same of two alike; of two whose lengths part. -/
theorem same_true (W : World) (p q : Option Addr) (lim : Int) (L : List Int) (h1 : Qat_I W p lim L) (h2 : Qat_I W q lim L) :
    Calls Try.prog 28 #[.pointer p, .pointer q] W fun e w' => e = .returned (.bool true) ∧ Below W.heap.size W w' :=
  (same_len_I W p q lim L L h1 h2 (fun _ => rfl)).mono fun e w' h => ⟨by rw [h.1, decide_eq_true rfl], h.2⟩
theorem same_false (W : World) (p q : Option Addr) (lim : Int) (L L' : List Int) (h1 : Qat_I W p lim L) (h2 : Qat_I W q lim L') (hne : L.length ≠ L'.length) :
    Calls Try.prog 28 #[.pointer p, .pointer q] W fun e w' => e = .returned (.bool false) ∧ Below W.heap.size W w' :=
  (same_len_I W p q lim L L' h1 h2 (fun e => absurd e hne)).mono fun e w' h => ⟨by rw [h.1, decide_eq_false hne], h.2⟩

set_option maxHeartbeats 1000000 in
set_option maxRecDepth 100000 in
theorem same_yes (S T : Nat → Prop) (l : List Int) (a b : Value) (w : World) (ha : Lst S w a (ints l)) (hb : Lst T w b (ints l)) :
    Calls Try.prog 30 #[a, b] w fun e w' => e = .returned (.bool true) ∧ Below w.heap.size w w' := by
  obtain ⟨p, cp, rfl, hm, hg⟩ := ha
  obtain ⟨q, cq, rfl, _, ht⟩ := hb
  have e1 := ints_len l
  rw [e1] at hm ⊢
  have HG := Lib.hid hg
  have HT := Lib.hid ht
  clear hg ht e1
  go_enter Try.func30, Try.ntmps30
  go_wp2_with fail
  go_loopw [5] (fun i wr => ∃ k : Nat, k ≤ l.length ∧ i = .int .i64 k ∧ Below w.heap.size w wr) (fun i _ => l.length - (intOf i).toNat)
  case atStart => exact ⟨0, Nat.zero_le _, rfl, Below.refl _ _⟩
  case round =>
    obtain ⟨k, hk, rfl, hbw⟩ := hrel
    by_cases hlt : k < l.length
    · obtain ⟨b1, o1, rfl, _, hd1⟩ := HG.out k _ (ints_at hlt)
      obtain ⟨b2, o2, rfl, _, hd2⟩ := HT.out k _ (ints_at hlt)
      have hc1 : wr.cell? ⟨b1, o1 + k, none⟩ = _ := (hbw.cell (p := ⟨b1, o1 + k, none⟩) (cell_lt hd1)).trans hd1
      have hc2 : wr.cell? ⟨b2, o2 + k, none⟩ = _ := (hbw.cell (p := ⟨b2, o2 + k, none⟩) (cell_lt hd2)).trans hd2
      clear hd1 hd2
      have z0 : (0 : Int) ≤ (k : Int) := by omega
      have z1 : (k : Int) < (l.length : Int) := by omega
      generalize l.getD k 0 = g at *
      go_wp2_with fail
      go_quiet (fail)
      go_wp2_with fail
      go_roundw
      case rel => exact ⟨k + 1, by omega, by go_num, below_drewN hbw _⟩
      case measure => simp [intOf]; omega
    · go_wp2_with fail
      go_ret
      exact ⟨rfl, hbw⟩
end Go.Proofs.Ytdpchojfgcjbeaa
