/- The program's Put of a queue of jobs; no condition but those that each row names. -/
import Derived.Test.YtpfhebfkhailfaaDoorUQPush
import Derived.Test.YtpfhebfkhailfaaDoorUQDrop
import Derived.Deep.RegionLaw
namespace Go.Proofs.YtpfhebfkhailfaaDoor
open Go.RowKit Tsk

theorem splice_take_in {cur : List Value} {o m : Nat} {vs : List Value} (h : o + vs.length ≤ m) (hm : m ≤ cur.length) : (splice cur o vs).take m = splice (cur.take m) o vs := by
  have l1 : (cur.take o).length = o := by rw [List.length_take]; omega
  unfold splice
  rw [List.take_append, List.take_of_length_le (l := cur.take o) (by omega), List.take_append, List.take_of_length_le (l := vs) (by omega), l1, List.drop_take, List.take_take, Nat.min_eq_left (by omega), Nat.sub_sub]
theorem flat_set {k : Nat} {l : List (Value × Int)} (hw : Wide k l) {i : Nat} (hi : i < l.length) {v : Value} (hv : (cellsOf v).length = k) (z : Int) :
    splice (flat l) (i * (k + 1)) (cellsOf v ++ [.int .i64 z]) = flat (l.set i (v, z)) := by
  unfold splice
  rw [flat_take hw, List.set_eq_take_append_cons_drop, if_pos hi, flat_append, show i * (k + 1) + (cellsOf v ++ [Value.int .i64 z]).length = (i + 1) * (k + 1) from by simp [hv, Nat.add_mul], flat_drop hw]
  simp [flat]

/-- The element at a place is another one. -/
def Qu.put (A : Qu) (i : Nat) (v : Value) : Qu := { limit := A.limit, l := A.l.set i (v, A.last + 1), last := A.last + 1 }
theorem good_put {A : Qu} (h : A.Good 4) {i : Nat} (x : Jb) : (A.put i (.agg #[.int .i64 x.l, .int .i64 x.c, .int .i64 x.a, .int .i64 x.d])).Good 4 := by
  have hz := h.z0
  refine ⟨h.l0, h.l1, by simpa [Qu.put] using h.len, ?_, by simp [Qu.put]; omega, ?_, ?_⟩
  · intro p hp
    rcases List.mem_or_eq_of_mem_set hp with hp | rfl
    · exact h.wd p hp
    · exact ⟨rfl, fun u hu => by simp [cellsOf] at hu; rcases hu with rfl | rfl | rfl | rfl <;> rfl⟩
  · intro p hp
    rcases List.mem_or_eq_of_mem_set hp with hp | rfl
    · have := h.nums p hp; simp [Qu.put]; omega
    · simp [Qu.put]; omega
  · simp only [Qu.put, List.map_set]
    refine List.Pairwise.imp (fun h => h) ?_
    refine List.pairwise_iff_getElem.2 fun a c ha hc hac => ?_
    have hnd := List.pairwise_iff_getElem.1 h.nd
    simp only [List.length_set] at ha hc
    have hb : ∀ j (hj : j < (A.l.map (·.2)).length), (A.l.map (·.2))[j] ≤ A.last := fun j hj => by
      obtain ⟨p, hp, e⟩ := List.mem_map.1 (List.getElem_mem hj)
      rw [← e]; exact (h.nums p hp).2
    rw [List.getElem_set, List.getElem_set]
    split
    · next e => subst e; rw [if_neg (by omega)]; have := hb c hc; omega
    · split
      · have := hb a ha; omega
      · exact hnd a c ha hc hac

theorem PQ.put4 {T E : TypeId} {B : Nat} {w : World} {A : Qu} {b : Nat} {g cap : Nat} (h : PQ T E 4 B w A.next b (.slice (some ⟨g, 0, none⟩) A.l.length cap)) (hA : A.Good 4) {i : Nat} (hi : i < A.l.length) (x : Jb) :
    PQ T E 4 B (((((w.setCell ⟨g, i * 5, none⟩ (.int .i64 x.l)).setCell ⟨g, i * 5 + 1, none⟩ (.int .i64 x.c)).setCell ⟨g, i * 5 + 2, none⟩ (.int .i64 x.a)).setCell ⟨g, i * 5 + 3, none⟩ (.int .i64 x.d)).setCell ⟨g, i * 5 + 4, none⟩ (.int .i64 (A.last + 1))) (A.put i (.agg #[.int .i64 x.l, .int .i64 x.c, .int .i64 x.a, .int .i64 x.d])) b (.slice (some ⟨g, 0, none⟩) A.l.length cap) := by
  have hgb : b ≠ g := fun e => h.ne (by simp [Value.ownBlock, e])
  have hown : w.ownsRow B E 5 (.slice (some ⟨g, 0, none⟩) A.l.length cap) A.l.length (flat A.l) := h.own
  obtain ⟨cur, hrow, hB, hn, hm, hl, ht⟩ := row_of_own hown
  have hr2 := Row.setCells [.int .i64 x.l, .int .i64 x.c, .int .i64 x.a, .int .i64 x.d, .int .i64 (A.last + 1)] (i * 5) hrow (by simp; omega)
  have hfl : (flat A.l).length = A.l.length * 5 := flat_len hA.wd
  refine ⟨?_, ?_, h.hb, h.ne⟩
  · rw [heap_setCell_other _ _ _ _ hgb, heap_setCell_other _ _ _ _ hgb, heap_setCell_other _ _ _ _ hgb, heap_setCell_other _ _ _ _ hgb, heap_setCell_other _ _ _ _ hgb]; exact h.blk
  · have e1 : (A.put i (.agg #[.int .i64 x.l, .int .i64 x.c, .int .i64 x.a, .int .i64 x.d])).l.length = A.l.length := by simp [Qu.put]
    rw [e1]
    refine own_of_row (cur := splice cur (i * 5) [.int .i64 x.l, .int .i64 x.c, .int .i64 x.a, .int .i64 x.d, .int .i64 (A.last + 1)]) hr2 hB hn hm (by rw [splice_len (by simp; omega), hl]) ?_
    rw [splice_take_in (by simp; omega) (by omega), ht]
    exact flat_set (v := .agg #[.int .i64 x.l, .int .i64 x.c, .int .i64 x.a, .int .i64 x.d]) hA.wd hi rfl (A.last + 1)
def PutPost (B : Nat) (w : World) (A : Qu) (b : Nat) (s : Value) (e : Ending) (w' : World) : Prop :=
  e = .returned .nilIface ∧ PQ QT_J ET_J 4 B w' A b s ∧ Keeps (fun x => x = b ∨ s.ownBlock = some x) w w'

set_option maxHeartbeats 1000000 in
set_option maxRecDepth 100000 in
theorem put_yes (B : Nat) (A : Qu) (hA : A.Good 4) (w : World) (b : Nat) (s : Value) (h : PQ QT_J ET_J 4 B w A b s) (i : Nat) (hi : i < A.l.length) (x : Jb) (hl : A.last + 1 ≤ 9223372036854775807) :
    Calls Tryd.prog 58 #[.pointer (some ⟨b, 0, none⟩), .int .i64 i, .agg #[.int .i64 x.l, .int .i64 x.c, .int .i64 x.a, .int .i64 x.d]] w (PutPost B w (A.put i (.agg #[.int .i64 x.l, .int .i64 x.c, .int .i64 x.a, .int .i64 x.d])) b s) := by
  obtain ⟨g, cap, hs, hBg, hglt, hgb⟩ := h.form (by omega)
  subst hs
  have HN := Lib.hid (has_J 4 B A (w.alloc (.cells #[.int .i64 x.l, .int .i64 x.c, .int .i64 x.a, .int .i64 x.d] 42)) b _ (h.alloc _) i)
  rw [show hasB A i = true from hasB_iff.2 ⟨by omega, by omega⟩] at HN
  have HE := fun w h => Lib.hid (enter_J B A hA w b (.slice (some ⟨g, 0, none⟩) A.l.length cap) h x hl)
  have HP := Lib.hid (h.alloc (.cells #[.int .i64 x.l, .int .i64 x.c, .int .i64 x.a, .int .i64 x.d] 42))
  have hglt' : g < (w.alloc (.cells #[.int .i64 x.l, .int .i64 x.c, .int .i64 x.a, .int .i64 x.d] 42)).heap.size := by simp; omega
  have HA := Lib.hid hA
  have f1 := h.f1
  have ha := h.alloc (.cells #[.int .i64 x.l, .int .i64 x.c, .int .i64 x.a, .int .i64 x.d] 42)
  have hlt := h.lt
  have z0 : (0 : Int) ≤ (i : Int) := by omega
  have z1 : (i : Int) < (A.l.length : Int) := by omega
  have q0 := ha.own.cellAt (i * 5) (by omega)
  have q1 := ha.own.cellAt (i * 5 + 1) (by omega)
  have q2 := ha.own.cellAt (i * 5 + 2) (by omega)
  have q3 := ha.own.cellAt (i * 5 + 3) (by omega)
  have q4 := ha.own.cellAt (i * 5 + 4) (by omega)
  rw [List.getElem?_eq_getElem (by rw [flat_len hA.wd]; omega)] at q0 q1 q2 q3 q4
  have hgb' : ¬ g = b := hgb
  generalize (flat A.l)[i * 5]'(by rw [flat_len hA.wd]; omega) = y0 at q0
  generalize (flat A.l)[i * 5 + 1]'(by rw [flat_len hA.wd]; omega) = y1 at q1
  generalize (flat A.l)[i * 5 + 2]'(by rw [flat_len hA.wd]; omega) = y2 at q2
  generalize (flat A.l)[i * 5 + 3]'(by rw [flat_len hA.wd]; omega) = y3 at q3
  generalize (flat A.l)[i * 5 + 4]'(by rw [flat_len hA.wd]; omega) = y4 at q4
  clear h hA hl ha
  go_enter Tryd.func58, Tryd.ntmps58
  go_wp2_with fail
  refine HN.out.mono ?_
  rintro e w1 ⟨rfl, rfl⟩
  go_wp2_with fail
  go_upto_region 3 with fail
  go_cut [] (fun wx => Hid (PutPost B w (A.put i (.agg #[.int .i64 x.l, .int .i64 x.c, .int .i64 x.a, .int .i64 x.d])) b (.slice (some ⟨g, 0, none⟩) A.l.length cap) (.returned .nilIface) wx))
  case first =>
    go_region_law (go_simp; go_at_call 55; refine (HE _ HP.out.drew).out.mono ?_; rintro e w2 ⟨rfl, h1, hk⟩; have f1' := h1.f1; have hk2 : ∀ j, w2.cell? ⟨g, j, none⟩ = (w.alloc (.cells #[.int .i64 x.l, .int .i64 x.c, .int .i64 x.a, .int .i64 x.d] 42)).cell? ⟨g, j, none⟩ := fun j => hk.cell (p := ⟨g, j, none⟩) hglt' hgb; have q0' := (hk2 (i * 5)).trans q0; have q1' := (hk2 (i * 5 + 1)).trans q1; have q2' := (hk2 (i * 5 + 2)).trans q2; have q3' := (hk2 (i * 5 + 3)).trans q3; have q4' := (hk2 (i * 5 + 4)).trans q4; have p0' := h1.own.frozenAt (i * 5); have p1' := h1.own.frozenAt (i * 5 + 1); have p2' := h1.own.frozenAt (i * 5 + 2); have p3' := h1.own.frozenAt (i * 5 + 3); have p4' := h1.own.frozenAt (i * 5 + 4))
    all_goals go_wp2_with fail
    all_goals
      go_meet
      refine Lib.hid ⟨rfl, h1.put4 HA.out hi x, ?_⟩
      iterate 5 refine Keeps.setCell ?_ _ _ (.inl (.inr rfl))
      exact (((Keeps.refl _ w).alloc _).drew.trans hk).mono (fun _ => .inl)
  case rest =>
    go_wp2_with fail
    go_ret
    exact hcut.out
end Go.Proofs.YtpfhebfkhailfaaDoor
