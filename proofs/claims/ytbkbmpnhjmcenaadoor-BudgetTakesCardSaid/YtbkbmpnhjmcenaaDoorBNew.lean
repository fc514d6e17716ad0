/- The program's package budget: full, New, for every reservation and time; Take, Delete, Resize, Reserved, for every budget; no condition but those that a row names. -/
import Derived.Test.YtbkbmpnhjmcenaaDoorBVal
namespace Go.Proofs.YtbkbmpnhjmcenaaDoor
open Go.RowKit

/-- A block of one's own, written whole. -/
theorem below_set8 {w W : World} (h : Below w.heap.size w W) {b : Nat} (hb : w.heap.size ≤ b) (x0 x1 x2 x3 x4 x5 x6 x7 : Value) :
    Below w.heap.size w ((((((((W.setCell ⟨b, 0, none⟩ x0).setCell ⟨b, 1, none⟩ x1).setCell ⟨b, 2, none⟩ x2).setCell ⟨b, 3, none⟩ x3).setCell ⟨b, 4, none⟩ x4).setCell ⟨b, 5, none⟩ x5).setCell ⟨b, 6, none⟩ x6).setCell ⟨b, 7, none⟩ x7) :=
  (((((((h.setCell hb _).setCell hb _).setCell hb _).setCell hb _).setCell hb _).setCell hb _).setCell hb _).setCell hb _

set_option maxHeartbeats 1000000 in
theorem full_ok (q p at0 : Int) (w : World) (h : okR q p) (h0 : 0 ≤ at0) (h1 : at0 ≤ 1073741824) :
    Calls Tryd.prog 22 #[.agg #[.int .i64 q, .int .i64 p], .int .i64 at0] w fun e w' => e = .returned (.agg #[.int .i64 q, .int .i64 p, .int .i64 0, .int .i64 0, .bool false, .int .i64 q, .int .i64 at0, .int .i64 (at0 + p)]) ∧ Below w.heap.size w w' := by
  obtain ⟨k1, k2, k3⟩ := h
  go_enter Tryd.func22, Tryd.ntmps22
  go_wp2
  exact bodyPost_ret (v := .agg #[.int .i64 q, .int .i64 p, .int .i64 0, .int .i64 0, .bool false, .int .i64 q, .int .i64 at0, .int .i64 (at0 + p)]) (by simp [results, Tryd.results22, go_sem]) rfl ⟨rfl, ((Below.refl _ _).alloc (Nat.le_refl _) _).alloc (by simp) _⟩

set_option maxHeartbeats 1000000 in
theorem new_neg (q p at0 : Int) (w : World) (h0 : at0 < 0) :
    Calls Tryd.prog 6 #[.agg #[.int .i64 q, .int .i64 p], .int .i64 at0] w fun e w' => e = .returned (.tuple #[.agg #[.int .i64 0, .int .i64 0, .int .i64 0, .int .i64 0, .bool false, .int .i64 0, .int .i64 0, .int .i64 0], .iface 49 (.int .i64 1)]) ∧ Below w.heap.size w w' := by
  go_enter Tryd.func6, Tryd.ntmps6
  go_wp2
  exact bodyPost_ret (v := .tuple #[.agg #[.int .i64 0, .int .i64 0, .int .i64 0, .int .i64 0, .bool false, .int .i64 0, .int .i64 0, .int .i64 0], .iface 49 (.int .i64 1)]) (by simp [results, Tryd.results6, go_sem]) rfl ⟨rfl, ((Below.refl _ _).alloc (Nat.le_refl _) _).alloc (by simp) _⟩

set_option maxHeartbeats 1000000 in
theorem new_no (q p at0 : Int) (w : World) (h0 : 0 ≤ at0) (h : ¬ okR q p) :
    Calls Tryd.prog 6 #[.agg #[.int .i64 q, .int .i64 p], .int .i64 at0] w fun e w' => e = .returned (.tuple #[.agg #[.int .i64 0, .int .i64 0, .int .i64 0, .int .i64 0, .bool false, .int .i64 0, .int .i64 0, .int .i64 0], .iface 49 (.int .i64 2)]) ∧ Below w.heap.size w w' := by
  have HV := Lib.hid h
  clear h
  go_enter Tryd.func6, Tryd.ntmps6
  go_wp2_with fail
  refine (valid_no q p _ HV.out).mono ?_
  rintro e w1 ⟨rfl, hb1⟩
  obtain ⟨hc1, hf1⟩ := bcell hb1
  have hz1 : w.heap.size + 1 < w1.heap.size := by have := hb1.size; simp at this; omega
  have hy1 : w.heap.size < w1.heap.size := by omega
  go_wp2_with fail
  exact bodyPost_ret (v := .tuple #[.agg #[.int .i64 0, .int .i64 0, .int .i64 0, .int .i64 0, .bool false, .int .i64 0, .int .i64 0, .int .i64 0], .iface 49 (.int .i64 2)]) (by simp [results, Tryd.results6, go_sem, hc1]) rfl ⟨rfl, below_set8 (bnext (((Below.refl _ _).alloc (Nat.le_refl _) _).alloc (by simp) _) hb1) (by omega) _ _ _ _ _ _ _ _⟩

set_option maxHeartbeats 1000000 in
theorem new_late (q p at0 : Int) (w : World) (h0 : 1073741824 < at0) (h : okR q p) :
    Calls Tryd.prog 6 #[.agg #[.int .i64 q, .int .i64 p], .int .i64 at0] w fun e w' => e = .returned (.tuple #[.agg #[.int .i64 0, .int .i64 0, .int .i64 0, .int .i64 0, .bool false, .int .i64 0, .int .i64 0, .int .i64 0], .iface 49 (.int .i64 60)]) ∧ Below w.heap.size w w' := by
  have hn : 0 ≤ at0 := by omega
  have HV := Lib.hid h
  clear h
  go_enter Tryd.func6, Tryd.ntmps6
  go_wp2_with fail
  refine (valid_ok q p _ HV.out).mono ?_
  rintro e w1 ⟨rfl, hb1⟩
  obtain ⟨hc1, hf1⟩ := bcell hb1
  have hz1 : w.heap.size + 1 < w1.heap.size := by have := hb1.size; simp at this; omega
  have hy1 : w.heap.size < w1.heap.size := by omega
  go_wp2_with fail
  exact bodyPost_ret (v := .tuple #[.agg #[.int .i64 0, .int .i64 0, .int .i64 0, .int .i64 0, .bool false, .int .i64 0, .int .i64 0, .int .i64 0], .iface 49 (.int .i64 60)]) (by simp [results, Tryd.results6, go_sem, hc1]) rfl ⟨rfl, below_set8 (bnext (((Below.refl _ _).alloc (Nat.le_refl _) _).alloc (by simp) _) hb1) (by omega) _ _ _ _ _ _ _ _⟩

set_option maxHeartbeats 1000000 in
theorem new_ok (q p at0 : Int) (w : World) (h : okR q p) (h0 : 0 ≤ at0) (h1 : at0 ≤ 1073741824) :
    Calls Tryd.prog 6 #[.agg #[.int .i64 q, .int .i64 p], .int .i64 at0] w fun e w' => e = .returned (.tuple #[.agg #[.int .i64 q, .int .i64 p, .int .i64 0, .int .i64 0, .bool false, .int .i64 q, .int .i64 at0, .int .i64 (at0 + p)], .nilIface]) ∧ Below w.heap.size w w' := by
  have HV := Lib.hid h
  clear h
  go_enter Tryd.func6, Tryd.ntmps6
  go_wp2_with fail
  refine (valid_ok q p _ HV.out).mono ?_
  rintro e w1 ⟨rfl, hb1⟩
  obtain ⟨hc1, hf1⟩ := bcell hb1
  have hz1 : w.heap.size + 1 < w1.heap.size := by have := hb1.size; simp at this; omega
  have hy1 : w.heap.size < w1.heap.size := by omega
  go_wp2_with fail
  refine (full_ok q p at0 _ HV.out h0 h1).mono ?_
  rintro e w2 ⟨rfl, hb2⟩
  obtain ⟨hc2, hf2⟩ := bcell hb2
  have hz2 : w.heap.size + 1 < w2.heap.size := by have := hb2.size; omega
  go_wp2_with fail
  exact bodyPost_ret (v := .tuple #[.agg #[.int .i64 q, .int .i64 p, .int .i64 0, .int .i64 0, .bool false, .int .i64 q, .int .i64 at0, .int .i64 (at0 + p)], .nilIface]) (by simp [results, Tryd.results6, go_sem, hc1, hc2, hz1]) rfl ⟨rfl, below_set8 (bnext (bnext (((Below.refl _ _).alloc (Nat.le_refl _) _).alloc (by simp) _) hb1) hb2) (by omega) _ _ _ _ _ _ _ _⟩

end Go.Proofs.YtbkbmpnhjmcenaaDoor
