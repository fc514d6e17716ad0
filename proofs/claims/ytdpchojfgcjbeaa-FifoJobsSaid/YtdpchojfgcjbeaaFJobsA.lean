/- The law FifoJobs: the function that it hands to Keep, and what its loop carries, ahead of the walk; no condition but those that the rows name. -/
import Derived.Test.YtdpchojfgcjbeaaFSameJ
import Derived.Test.YtdpchojfgcjbeaaFKeepJ
import Derived.Test.YtdpchojfgcjbeaaFWorks
import Derived.Test.YtdpchojfgcjbeaaFOpens
namespace Go.Proofs.Ytdpchojfgcjbeaa
open Go.RowKit Go.Shelf

/-- A slice that reads as jobs. -/
def JobsJ (w : World) (v : Value) (l : List Jb) : Prop :=
  ∃ p cap, v = .slice p l.length cap ∧ l.length ≤ 9223372036854775807 ∧ ∀ j x, l[j]? = some x → ∃ b off, p = some ⟨b, off, none⟩ ∧ w.cell? ⟨b, off + j * 4, none⟩ = some (.int .i64 x.a) ∧ w.cell? ⟨b, off + j * 4 + 1, none⟩ = some (.int .i64 x.b) ∧ w.cell? ⟨b, off + j * 4 + 2, none⟩ = some (.int .i64 x.c) ∧ w.cell? ⟨b, off + j * 4 + 3, none⟩ = some (.int .i64 x.d)
theorem open_jobsJ {H : Type} {enc : TypeId × Value → H} {w : World} {spare : Nat → Bool} {held : Bool} {fuel : Nat} {v : Value} {x : DataW H × List MemPlace} (h : DataW.trod enc Try.prog w 0 spare held fuel 67 [v] = some x) : ∃ l, JobsJ w v l := by
  obtain ⟨l, p, cap, rfl, hm, hc⟩ := open_jobs h
  refine ⟨l.map fun q => ⟨q.1, q.2.1, q.2.2.1, q.2.2.2⟩, p, cap, by simp, by simpa using hm, fun j y hy => ?_⟩
  rw [List.getElem?_map] at hy
  obtain ⟨⟨x0, x1, x2, x3⟩, hq, rfl⟩ := Option.map_eq_some_iff.1 hy
  exact hc j x0 x1 x2 x3 hq

/-- Is it as long. -/
def lng (least : Int) (x : Jb) : Bool := decide (least ≤ x.a)
/-- Where the law's function looks: how often it was asked, the least length. -/
def AskJ (ab lb : Nat) (least : Int) (i : Nat) (W : World) : Prop := Boxed W ab 3 (.int .i64 i) ∧ Boxed W lb 3 (.int .i64 least)
set_option maxHeartbeats 1000000 in
set_option maxRecDepth 100000 in
theorem ask_any (ab lb : Nat) (hne : ab ≠ lb) (least : Int) (i : Nat) (hi : i ≤ 4096) (x : Jb) (W : World) (h : AskJ ab lb least i W) :
    Calls Try.prog 34 (#[(.agg #[.int .i64 x.a, .int .i64 x.b, .int .i64 x.c, .int .i64 x.d])] ++ #[.pointer (some ⟨ab, 0, none⟩), .pointer (some ⟨lb, 0, none⟩)]) W (GivesBJ (fun W' => AskJ ab lb least (i + 1) W' ∧ Keeps (fun y => y = ab ∨ y = lb) W W') (lng least x)) := by
  have H := Lib.hid h
  obtain ⟨ha, hb⟩ := h
  have ca := ha.cell
  have fa := ha.frozen
  have la := ha.lt
  have cb := hb.cell
  have lb' := hb.lt
  have hne' : lb ≠ ab := fun e => hne e.symm
  have co : ∀ u, (W.setCell ⟨ab, 0, none⟩ u).cell? ⟨lb, 0, none⟩ = some (.int .i64 least) := fun u => (hb.other hne' u).cell
  have CO := Lib.hid co
  have z1 : (i : Int) + 1 ≤ 4097 := by omega
  clear ha hb co
  show Calls Try.prog 34 #[(.agg #[.int .i64 x.a, .int .i64 x.b, .int .i64 x.c, .int .i64 x.d]), .pointer (some ⟨ab, 0, none⟩), .pointer (some ⟨lb, 0, none⟩)] W _
  go_enter Try.func34, Try.ntmps34
  go_wp2_with fail
  go_ret
  have hb2 : Boxed (W.setCell ⟨ab, 0, none⟩ (.int .i64 ((i : Int) + 1))) ab 3 (.int .i64 ((i + 1 : Nat) : Int)) := by
    have := H.out.1.set (.int .i64 ((i : Int) + 1))
    simpa using this
  exact ⟨rfl, ⟨hb2.alloc _, (H.out.2.other hne' _).alloc _⟩, ((Keeps.refl _ W).setCell ⟨ab, 0, none⟩ _ (.inl (.inl rfl))).alloc _⟩

/-- Between two rounds: the first queue has the first k jobs, the second one those of the first m that are as long. -/
structure JI (w : World) (least : Int) (l : List Jb) (k m : Nat) (W : World) (A P : Qu) (s t : Value) (L : List (Jb × Int)) : Prop where
  q : PQ QT_J ET_J 4 w.heap.size W A (w.heap.size + 1) s
  p : PQ QT_J ET_J 4 w.heap.size W P (w.heap.size + 2) t
  gq : A.Good 4
  gp : P.Good 4
  lq : A.limit = 50
  lp : P.limit = 50
  la : A.last ≤ k
  lap : P.last ≤ m
  el : A.l = ent_J L
  eL : L.map (·.1) = l.take k
  ep : P.l.map (·.1) = ((l.take m).filter (lng least)).map (fun x => .agg #[.int .i64 x.a, .int .i64 x.b, .int .i64 x.c, .int .i64 x.d])
  sa : ∀ g, s.ownBlock = some g → w.heap.size + 3 ≤ g
  ta : ∀ g, t.ownBlock = some g → w.heap.size + 3 ≤ g
  st : ∀ g, s.ownBlock = some g → t.ownBlock ≠ some g
  box : Boxed W w.heap.size 3 (.int .i64 least)
  bel : Below w.heap.size w W
  sz : w.heap.size + 3 ≤ W.heap.size
theorem JI.below {w W W' : World} {least : Int} {l : List Jb} {k m : Nat} {A P : Qu} {s t : Value} {L : List (Jb × Int)} (h : JI w least l k m W A P s t L) (hb : Below W.heap.size W W') : JI w least l k m W' A P s t L :=
  ⟨h.q.below hb, h.p.below hb, h.gq, h.gp, h.lq, h.lp, h.la, h.lap, h.el, h.eL, h.ep, h.sa, h.ta, h.st, (hb.block _ h.box.lt).trans h.box, bnext h.bel hb, Nat.le_trans h.sz hb.size⟩
theorem JI.len {w W : World} {least : Int} {l : List Jb} {k m : Nat} {A P : Qu} {s t : Value} {L : List (Jb × Int)} (h : JI w least l k m W A P s t L) (hk : k ≤ l.length) (hm : m ≤ l.length) : A.l.length = k ∧ P.l.length ≤ m := by
  have e1 := congrArg List.length h.eL
  have e2 := congrArg List.length h.ep
  have e3 := List.length_filter_le (lng least) (l.take m)
  simp at e1 e2 e3
  refine ⟨?_, by omega⟩
  rw [h.el, ent_len_J]; omega
theorem JI.start (w : World) (least : Int) (l : List Jb) :
    JI w least l 0 0 (((w.alloc (.cells #[.int .i64 least] 3)).alloc (.cells #[.int .i64 50, .slice none 0 0, .int .i64 0] QT_J)).alloc (.cells #[.int .i64 50, .slice none 0 0, .int .i64 0] QT_J)) ⟨50, [], 0⟩ ⟨50, [], 0⟩ (.slice none 0 0) (.slice none 0 0) [] := by
  have hq := PQ.new (T := QT_J) (E := ET_J) (k := 4) (B := w.heap.size) (w := w.alloc (.cells #[.int .i64 least] 3)) (by simp) 50
  have hp := PQ.new (T := QT_J) (E := ET_J) (k := 4) (B := w.heap.size) (w := (w.alloc (.cells #[.int .i64 least] 3)).alloc (.cells #[.int .i64 50, .slice none 0 0, .int .i64 0] QT_J)) (by simp; omega) 50
  refine ⟨?_, ?_, good_new (by decide) (by decide), good_new (by decide) (by decide), rfl, rfl, by simp, by simp, rfl, rfl, rfl, fun g e => by simp [Value.ownBlock] at e, fun g e => by simp [Value.ownBlock] at e, fun g e => by simp [Value.ownBlock] at e, ((Boxed.new w _ _).alloc _).alloc _, (((Below.refl _ w).alloc (Nat.le_refl _) _).alloc (by simp) _).alloc (by simp; omega) _, by simp⟩
  · simpa using hq.alloc (.cells #[.int .i64 50, .slice none 0 0, .int .i64 0] QT_J)
  · simpa using hp
theorem take_snocJ {l : List Jb} {k : Nat} {x : Jb} (h : l[k]? = some x) : l.take (k + 1) = l.take k ++ [x] := by
  rw [List.take_add_one, h]; rfl
theorem JI.step_q {w W W' : World} {least : Int} {l : List Jb} {k m : Nat} {A P : Qu} {s s' t : Value} {L : List (Jb × Int)} (h : JI w least l k m W A P s t L) {x : Jb} (hx : l[k]? = some x) (hr : A.l.length < A.limit)
    (hq : PQ QT_J ET_J 4 w.heap.size W' (A.push (.agg #[.int .i64 x.a, .int .i64 x.b, .int .i64 x.c, .int .i64 x.d])) (w.heap.size + 1) s') (hk : Keeps (fun y => y = w.heap.size + 1 ∨ s.ownBlock = some y) W W') (hs : ∀ g, s'.ownBlock = some g → s.ownBlock = some g ∨ W.heap.size ≤ g) :
    JI w least l (k + 1) m W' (A.push (.agg #[.int .i64 x.a, .int .i64 x.b, .int .i64 x.c, .int .i64 x.d])) P s' t (L ++ [(x, A.last + 1)]) := by
  have hsz := h.sz
  refine ⟨hq, h.p.keeps hk ?_ ?_, good_push_J h.gq x hr, h.gp, h.lq, h.lp, ?_, h.lap, ?_, ?_, h.ep, ?_, h.ta, ?_, ?_, ?_, Nat.le_trans h.sz hk.size⟩
  · rintro (e | e)
    · omega
    · have := h.sa _ e; omega
  · rintro g e (e1 | e1)
    · have := h.ta _ e; omega
    · exact h.st g e1 e
  · have := h.la; show A.last + 1 ≤ _; omega
  · simp [Qu.push, h.el, ent_J]
  · rw [List.map_append, h.eL, take_snocJ hx]; rfl
  · intro g e
    rcases hs g e with e | e
    · exact h.sa g e
    · omega
  · intro g e
    rcases hs g e with e | e
    · exact h.st g e
    · intro e2; have := (h.p.own.lt g e2).2; omega
  · refine (hk.block _ h.box.lt ?_).trans h.box
    rintro (e | e)
    · omega
    · have := h.sa _ e; omega
  · exact h.bel.trans (h.q.under hk)
theorem JI.step_skip {w W : World} {least : Int} {l : List Jb} {k m : Nat} {A P : Qu} {s t : Value} {L : List (Jb × Int)} (h : JI w least l k m W A P s t L) {x : Jb} (hx : l[m]? = some x) (hl : lng least x = false) : JI w least l k (m + 1) W A P s t L :=
  { h with lap := by have := h.lap; omega, ep := by rw [take_snocJ hx, List.filter_append]; simpa [hl] using h.ep }
theorem JI.step_p {w W W' : World} {least : Int} {l : List Jb} {k m : Nat} {A P : Qu} {s t t' : Value} {L : List (Jb × Int)} (h : JI w least l k m W A P s t L) {x : Jb} (hx : l[m]? = some x) (hl : lng least x = true) (hr : P.l.length < P.limit)
    (hq : PQ QT_J ET_J 4 w.heap.size W' (P.push (.agg #[.int .i64 x.a, .int .i64 x.b, .int .i64 x.c, .int .i64 x.d])) (w.heap.size + 2) t') (hk : Keeps (fun y => y = w.heap.size + 2 ∨ t.ownBlock = some y) W W') (hs : ∀ g, t'.ownBlock = some g → t.ownBlock = some g ∨ W.heap.size ≤ g) :
    JI w least l k (m + 1) W' A (P.push (.agg #[.int .i64 x.a, .int .i64 x.b, .int .i64 x.c, .int .i64 x.d])) s t' L := by
  have hsz := h.sz
  refine ⟨h.q.keeps hk ?_ ?_, hq, h.gq, good_push_J h.gp x hr, h.lq, h.lp, h.la, ?_, h.el, h.eL, ?_, h.sa, ?_, ?_, ?_, ?_, Nat.le_trans h.sz hk.size⟩
  · rintro (e | e)
    · omega
    · have := h.ta _ e; omega
  · rintro g e (e1 | e1)
    · have := h.sa _ e; omega
    · exact h.st g e e1
  · have := h.lap; show P.last + 1 ≤ _; omega
  · rw [take_snocJ hx, List.filter_append]
    simp [Qu.push, h.ep, hl]
  · intro g e
    rcases hs g e with e | e
    · exact h.ta g e
    · omega
  · intro g e e2
    rcases hs g e2 with e2 | e2
    · exact h.st g e e2
    · have := (h.q.own.lt g e).2; omega
  · refine (hk.block _ h.box.lt ?_).trans h.box
    rintro (e | e)
    · omega
    · have := h.ta _ e; omega
  · exact h.bel.trans (h.p.under hk)
/-- How many are as long. -/
def cnt (least : Int) (l : List Jb) (k : Nat) : Nat := ((l.take k).filter (lng least)).length
theorem cnt_le (least : Int) (l : List Jb) (k : Nat) : cnt least l k ≤ k := by
  unfold cnt
  have := List.length_filter_le (lng least) (l.take k)
  simp at this; omega
theorem cnt_yes {least : Int} {l : List Jb} {k : Nat} {x : Jb} (hx : l[k]? = some x) (hl : lng least x = true) : cnt least l (k + 1) = cnt least l k + 1 := by
  unfold cnt; rw [take_snocJ hx, List.filter_append]; simp [hl]
theorem cnt_no {least : Int} {l : List Jb} {k : Nat} {x : Jb} (hx : l[k]? = some x) (hl : lng least x = false) : cnt least l (k + 1) = cnt least l k := by
  unfold cnt; rw [take_snocJ hx, List.filter_append]; simp [hl]

/-- Behind Keep: both queues have the jobs that are as long. -/
def JEnd (w : World) (l : List Jb) (least : Int) (W : World) : Prop :=
  Qat_J W (some ⟨w.heap.size + 1, 0, none⟩) 50 (l.filter (lng least)) ∧ Qat_J W (some ⟨w.heap.size + 2, 0, none⟩) 50 (l.filter (lng least)) ∧ Below w.heap.size w W
def JKeep (w : World) (l : List Jb) (least : Int) (ab : Nat) (e : Ending) (W : World) : Prop :=
  e = .returned (.int .i64 ((l.length : Int) - cnt least l l.length)) ∧ Boxed W ab 3 (.int .i64 l.length) ∧ JEnd w l least W
theorem filter_map1J (L : List (Jb × Int)) (f : Jb → Bool) : (L.filter fun p => f p.1).map (·.1) = (L.map (·.1)).filter f := by
  rw [List.filter_map]; rfl
theorem keep_law {w W : World} {least : Int} {l : List Jb} {A P : Qu} {s t : Value} {L : List (Jb × Int)} (h : JI w least l l.length l.length W A P s t L) (h50 : l.length ≤ 50) :
    Calls Try.prog 33 #[.pointer (some ⟨w.heap.size + 1, 0, none⟩), .func (.func 34) #[] #[.pointer (some ⟨W.heap.size, 0, none⟩), .pointer (some ⟨w.heap.size, 0, none⟩)]] (W.alloc (.cells #[.int .i64 0] 3)) (JKeep w l least W.heap.size) := by
  have hsz := h.sz
  have eL := h.eL
  rw [List.take_length] at eL
  have hLl : L.length = l.length := by have := congrArg List.length eL; simpa using this
  have hA := h.below ((Below.refl _ W).alloc (Nat.le_refl _) (.cells #[.int .i64 0] 3))
  have hne : W.heap.size ≠ w.heap.size := by omega
  have hfn : KeepFn_J (W.alloc (.cells #[.int .i64 0] 3)) 34 #[.pointer (some ⟨W.heap.size, 0, none⟩), .pointer (some ⟨w.heap.size, 0, none⟩)] (lng least) (fun y => y = W.heap.size ∨ y = w.heap.size) (AskJ W.heap.size w.heap.size least) L := by
    refine ⟨fun i hi V hV => ask_any _ _ hne least i (by omega) L[i].1 V hV, fun i V V' hV hk => ?_, fun x hx => ?_⟩
    · exact ⟨(hk.block _ hV.1.lt (fun k => k (.inl rfl))).trans hV.1, (hk.block _ hV.2.lt (fun k => k (.inr rfl))).trans hV.2⟩
    · rw [World.size_alloc]; rcases hx with rfl | rfl <;> omega
  refine (keep_J (W.alloc (.cells #[.int .i64 0] 3)) w.heap.size A (w.heap.size + 1) s 34 _ (lng least) _ _ L h.gq (by have := h.la; omega) hA.q h.el (enters_of Try.func34 (by kernel_rfl) rfl) hfn ?_ ?_ ?_).mono ?_
  · rintro (e | e) <;> omega
  · rintro g e (rfl | rfl)
    · have := (h.q.own.lt _ e).2; omega
    · have := h.sa _ e; omega
  · exact ⟨Boxed.new W _ _, hA.box⟩
  · rintro e W' ⟨rfl, hJ, s', hq', hk', hs'⟩
    have ec : ((L.filter fun p => lng least p.1).length : Int) = cnt least l l.length := by
      have := congrArg List.length (filter_map1J L (lng least))
      rw [List.length_map, eL] at this
      rw [this]; unfold cnt; rw [List.take_length]
    refine ⟨by rw [ec, hLl], by rw [← hLl]; exact hJ.1, ?_, ?_, ?_⟩
    · refine .inr ⟨_, _, _, _, rfl, hq', ⟨h.gq.l0, h.gq.l1, ?_, ent_wide_J _, h.gq.z0, ?_, ?_⟩, h.lq, ?_⟩
      · have := h.gq.len
        rw [h.el, ent_len_J] at this
        have h2 := List.length_filter_le (fun p : Jb × Int => lng least p.1) L
        show ((ent_J _).length : Int) ≤ A.limit
        rw [ent_len_J]; omega
      · intro p hp
        refine h.gq.nums p ?_
        rw [h.el]
        unfold ent_J at hp ⊢
        obtain ⟨q, hq, rfl⟩ := List.mem_map.1 hp
        exact List.mem_map.2 ⟨q, (List.mem_filter.1 hq).1, rfl⟩
      · have hnd := h.gq.nd
        rw [h.el] at hnd
        unfold ent_J at hnd ⊢
        rw [List.map_map] at hnd ⊢
        exact (List.Sublist.map _ List.filter_sublist).nodup hnd
      · show (ent_J _).map (·.1) = _
        rw [← eL, ← filter_map1J]
        simp [ent_J]
    · refine .inr ⟨_, _, _, _, rfl, hA.p.keeps hk' ?_ ?_, h.gp, h.lp, ?_⟩
      · rintro ((e | e) | e | e)
        · omega
        · omega
        · omega
        · have := h.sa _ e; omega
      · rintro g e ((e1 | e1) | e1 | e1)
        · have := (h.p.own.lt _ e).2; omega
        · have := h.ta _ e; omega
        · have := h.ta _ e; omega
        · exact h.st g e1 e
      · have := h.ep; rw [List.take_length] at this; exact this
    · refine hA.bel.trans (hk'.below hA.bel.size ?_)
      rintro x ((rfl | rfl) | rfl | e)
      · omega
      · omega
      · omega
      · have := h.sa _ e; omega
end Go.Proofs.Ytdpchojfgcjbeaa
