/- The program's All of a queue of jobs: what it makes, and its rounds: at each step it reads the place as the queue stands then; no condition. -/
import Derived.Test.YtpfhebfkhailfaaDoorFRangeG
import Derived.Test.YtpfhebfkhailfaaDoorUQRead
import Derived.RangeFuncBox
import Derived.OwnWalkIn
import Derived.TacticsInMore
import Derived.LoopNIn
import Derived.LoopIn
namespace Go.Proofs.YtpfhebfkhailfaaDoor
open Go.RowKit Tsk
attribute [local go_sem] Oper.semAt_some

/-- What a pointer's queue holds. -/
def Holds_J (W : World) (q : Value) (L : List Jb) : Prop :=
  (q = .pointer none ∧ L = []) ∨ ∃ B b s A, q = .pointer (some ⟨b, 0, none⟩) ∧ PQ QT_J ET_J 4 B W A b s ∧ A.Good 4 ∧ A.l.map (·.1) = L.map (fun x => (.agg #[.int .i64 x.l, .int .i64 x.c, .int .i64 x.a, .int .i64 x.d]))
def Reads_J (bx : Nat) (W : World) (L : List Jb) : Prop := ∃ q, W.cell? ⟨bx, 0, none⟩ = some q ∧ Holds_J W q L
theorem Holds_J.len {W : World} {q : Value} {L : List Jb} (h : Holds_J W q L) : L.length ≤ 4096 := by
  rcases h with ⟨_, rfl⟩ | ⟨B, b, s, A, _, h, hA, e⟩
  · simp
  · have := congrArg List.length e
    simp at this
    rw [← this]; exact hA.n4
theorem PQ.turn {T E : TypeId} {k B : Nat} {w w' : World} {A : Qu} {b : Nat} {s : Value} {row : Option Nat} (h : PQ T E k B w A b s) (hg : w.grownBy w' row) (hr : ∀ r, row = some r → ∃ o : Obj, w.heap[r]? = some o ∧ o.isCells = false) : PQ T E k B w' A b s := by
  refine h.kept hg (fun e => ?_) ?_
  · obtain ⟨o, ho, hc⟩ := hr b e.symm
    rw [h.blk] at ho; cases ho; cases hc
  · cases hs : s.ownBlock with
    | none => exact .inl rfl
    | some g =>
      refine .inr fun e => ?_
      obtain ⟨o, ho, hc⟩ := hr g e.symm
      rcases h.own.2 with ⟨rfl, _⟩ | ⟨g', cap, cur, rfl, _, hgg, _⟩
      · simp [Value.ownBlock] at hs
      · simp [Value.ownBlock] at hs
        subst hs
        rw [hgg] at ho; cases ho; cases hc
theorem Holds_J.turn {W W' : World} {q : Value} {L : List Jb} {row : Option Nat} (h : Holds_J W q L) (hg : W.grownBy W' row) (hr : ∀ r, row = some r → ∃ o : Obj, W.heap[r]? = some o ∧ o.isCells = false) : Holds_J W' q L := by
  rcases h with h | ⟨B, b, s, A, e, h, r⟩
  · exact .inl h
  · exact .inr ⟨B, b, s, A, e, h.turn hg hr, r⟩
theorem Reads_J.turn {W W' : World} {bx : Nat} {L : List Jb} {row : Option Nat} (h : Reads_J bx W L) (hg : W.grownBy W' row) (hr : ∀ r, row = some r → ∃ o : Obj, W.heap[r]? = some o ∧ o.isCells = false) : Reads_J bx W' L := by
  obtain ⟨q, h1, h2⟩ := h
  exact ⟨q, cell_kept h1 hg hr, h2.turn hg hr⟩

theorem PQ.same_s {T E T' E' : TypeId} {k k' B B' : Nat} {w : World} {A A' : Qu} {b : Nat} {s s' : Value} (h : PQ T E k B w A b s) (h' : PQ T' E' k' B' w A' b s') : s = s' := by
  have e := h.f1.symm.trans h'.f1
  exact Option.some.inj e
theorem jb_ext {x y : Jb} (ha : x.l = y.l) (hb : x.c = y.c) (hc : x.a = y.a) (hd : x.d = y.d) : x = y := by
  cases x; cases y; simp at ha hb hc hd; simp [ha, hb, hc, hd]
theorem Holds_J.uniq {W : World} {q : Value} {L L' : List Jb} (h : Holds_J W q L) (h' : Holds_J W q L') : L = L' := by
  rcases h with ⟨rfl, rfl⟩ | ⟨B, b, s, A, rfl, h, hA, e⟩
  · rcases h' with ⟨_, rfl⟩ | ⟨_, _, _, _, e', _⟩
    · rfl
    · cases e'
  · rcases h' with ⟨e', _⟩ | ⟨B', b', s', A', e1, h', hA', e'⟩
    · cases e'
    · cases e1
      obtain rfl := h.same_s h'
      obtain ⟨p, cap, hs⟩ := h.shape
      obtain ⟨p', cap', hs'⟩ := h'.shape
      have hl : A.l.length = A'.l.length := by rw [hs] at hs'; injection hs'
      have l1 := congrArg List.length e
      have l2 := congrArg List.length e'
      simp at l1 l2
      apply List.ext_getElem (by omega)
      intro i h1 h2
      have g1 := congrArg (fun l => l[i]?) e
      have g2 := congrArg (fun l => l[i]?) e'
      simp only [List.getElem?_map, List.getElem?_eq_getElem h1, List.getElem?_eq_getElem h2, List.getElem?_eq_getElem (show i < A.l.length by omega), List.getElem?_eq_getElem (show i < A'.l.length by omega), Option.map_some, Option.some.injEq] at g1 g2
      obtain ⟨g, cap, hf, _⟩ := h.form (by omega)
      obtain ⟨c0, c1, c2, c3⟩ := h.elem4 hA hf (by omega) g1
      obtain ⟨d0, d1, d2, d3⟩ := h'.elem4 hA' (by rw [← hl]; exact hf) (by omega) g2
      have e0 := c0.symm.trans d0
      have e1 := c1.symm.trans d1
      have e2 := c2.symm.trans d2
      have e3 := c3.symm.trans d3
      simp at e0 e1 e2 e3
      exact jb_ext e0 e1 e2 e3
theorem Reads_J.uniq {W : World} {bx : Nat} {L L' : List Jb} (h : Reads_J bx W L) (h' : Reads_J bx W L') : L = L' := by
  obtain ⟨q, h1, h2⟩ := h
  obtain ⟨q', h1', h2'⟩ := h'
  obtain rfl := Option.some.inj (h1.symm.trans h1')
  exact h2.uniq h2'
theorem Holds_J.below {W W' : World} {q : Value} {L : List Jb} (h : Holds_J W q L) (hb : Below W.heap.size W W') : Holds_J W' q L := by
  rcases h with h | ⟨B, b, s, A, e, h, r⟩
  · exact .inl h
  · exact .inr ⟨B, b, s, A, e, h.below hb, r⟩
theorem at_holds_yes_J (W : World) (q : Value) (L : List Jb) (h : Holds_J W q L) (k : Nat) (x : Jb) (hx : L[k]? = some x) :
    Calls Tryd.prog 67 #[q, .int .i64 k] W fun e w' => e = .returned (.tuple #[(.agg #[.int .i64 x.l, .int .i64 x.c, .int .i64 x.a, .int .i64 x.d]), .bool true]) ∧ Below W.heap.size W w' := by
  rcases h with ⟨_, rfl⟩ | ⟨B, b, s, A, rfl, h, hA, e⟩
  · simp at hx
  · have hl := congrArg List.length e
    simp at hl
    obtain ⟨hk, hxx⟩ := List.getElem?_eq_some_iff.1 hx
    refine at_yes_J B A hA W b s h k (by omega) x ?_
    have := congrArg (fun l => l[k]?) e
    simp [hx] at this
    obtain ⟨n, hn⟩ := this
    have hk' : k < A.l.length := by omega
    rw [List.getElem?_eq_getElem hk'] at hn
    have := Option.some.inj hn
    rw [this]
theorem at_holds_no_J (W : World) (q : Value) (L : List Jb) (h : Holds_J W q L) (i : Int) (hi : i < 0 ∨ L.length ≤ i) :
    Calls Tryd.prog 67 #[q, .int .i64 i] W fun e w' => e = .returned (.tuple #[zero_J, .bool false]) ∧ Below W.heap.size W w' := by
  rcases h with ⟨rfl, rfl⟩ | ⟨B, b, s, A, rfl, h, hA, e⟩
  · exact at_nil_J W i
  · have hl := congrArg List.length e
    simp at hl
    exact at_no_J 4 B A W b s h i (by simp [hasB]; omega)

set_option maxHeartbeats 400000 in
theorem all_J (w : World) (q : Option Addr) :
    Calls Tryd.prog 56 #[.pointer q] w fun e w' => e = .returned (.func (.func 66) #[] #[.pointer (some ⟨w.heap.size, 0, none⟩)]) ∧ w' = w.alloc (.cells #[.pointer q] 70) := by
  go_enter Tryd.func56, Tryd.ntmps56
  go_wp2
  go_ret
  exact ⟨rfl, rfl⟩

def encs_J (k : Nat) (x : Jb) : Array Value := #[.int .i64 k, (.agg #[.int .i64 x.l, .int .i64 x.c, .int .i64 x.a, .int .i64 x.d])]
set_option maxHeartbeats 2000000 in
set_option maxRecDepth 100000 in
theorem all_iter_J (n : Nat) (hn : 2 ≤ n) (bx : Nat) :
    IterG Fence.wide n Tryd.prog 66 #[.pointer (some ⟨bx, 0, none⟩)] encs_J (fun _ W => ∃ L, Reads_J bx W L) (fun k x W => ∃ L, Reads_J bx W L ∧ L[k]? = some x) (fun k W => ∃ L, Reads_J bx W L ∧ L.length ≤ k) := by
  intro l J Jx W hR hS hY h0
  have HS := Lib.hid hS
  have HR := Lib.hid hR
  have HY := Lib.hid hY
  clear hR hY hS
  refine callsIn_of_wp Tryd.func66 rfl trivial ?_ rfl
  simp only [Tryd.ntmps66, List.size_toArray, List.length_cons, List.length_nil, Nat.reduceAdd, Nat.reduceSub, Array.replicate_succ, Array.replicate_zero, List.push_toArray, List.append_toArray, List.nil_append, List.cons_append]
  gi_wp2
  gi_loopw [3, 4, 5, 8] (fun p _ _ _ wr => ∃ k : Nat, p = .int .i64 k ∧ k ≤ 4096 ∧ J k wr) (fun p _ _ _ _ => 4096 - (intOf p).toNat)
  case atStart => exact ⟨0, rfl, by omega, h0⟩
  case round =>
    obtain ⟨k, rfl, hk, hj⟩ := hrel
    obtain ⟨L, q, hq, hh⟩ := HR.out k wr hj
    have hll := hh.len
    have HJ := Lib.hid hj
    have HH := Lib.hid hh
    clear hj hh
    by_cases hlt : k < L.length
    · have hyes := at_holds_yes_J wr q L HH.out k L[k] (by simp)
      have HYK := Lib.hid (fun W2 (hb : Below wr.heap.size wr W2) => HY.out k L[k] W2 (HS.out k wr W2 HJ.out hb) ⟨L, ⟨q, (hb.cell (p := ⟨bx, 0, none⟩) (cell_lt hq)).trans hq, HH.out.below hb⟩, by simp⟩)
      have z1 : (k : Int) + 1 ≤ 4097 := by omega
      generalize L[k] = x at *
      gi_wp2_with fail
      refine ⟨trivial, (fun _ => by omega), ?_⟩
      refine (callsIn_wide.2 hyes).mono ?_
      rintro e w2 ⟨rfl, hb2⟩
      obtain ⟨fn, tmps, assign, body, hy, hRo⟩ := HYK.out _ (hb2.alloc hb2.size (.cells #[.int .i64 x.l, .int .i64 x.c, .int .i64 x.a, .int .i64 x.d] 42))
      unfold encs_J at hy
      have HRo := Lib.hid hRo
      clear hRo hb2 HYK hyes
      gi_wp2_with fail
      refine ⟨(fun _ => by omega), ?_⟩
      refine HRo.out.mono ?_
      rintro e W3 (⟨rfl, hJ3⟩ | ⟨rfl, hJx3⟩)
      · gi_wp2
        go_roundw
        case rel => exact ⟨k + 1, by go_num, by omega, hJ3⟩
        case measure => simp [intOf]; omega
      · gi_wp2
        refine bodyPost_ret (results_none rfl _ _ _) rfl ?_
        exact ⟨⟨_, rfl⟩, .inr hJx3⟩
    · have hno := at_holds_no_J wr q L HH.out (k : Int) (.inr (by omega))
      gi_wp2_with fail
      refine ⟨trivial, (fun _ => by omega), ?_⟩
      refine (callsIn_wide.2 hno).mono ?_
      rintro e w2 ⟨rfl, hb2⟩
      have HB3 := Lib.hid (hb2.alloc hb2.size (.cells #[.int .i64 0, .int .i64 0, .int .i64 0, .int .i64 0] 42))
      clear hb2 hno
      gi_wp2_with fail
      refine ⟨fun f e => (by cases e), ?_⟩
      gi_wp2_with fail
      refine bodyPost_ret (results_none rfl _ _ _) rfl ?_
      exact ⟨⟨_, rfl⟩, .inl ⟨k, ⟨L, ⟨q, (HB3.out.cell (p := ⟨bx, 0, none⟩) (cell_lt hq)).trans hq, HH.out.below HB3.out⟩, by omega⟩, HS.out _ _ _ HJ.out HB3.out⟩⟩
end Go.Proofs.YtpfhebfkhailfaaDoor
