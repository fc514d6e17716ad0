/- The program's package budget: Take, Delete, Resize, Reserved, for every budget; no condition. -/
import Derived.Test.YtbkbmpnhjmcenaaDoorBNew
import Derived.WalkLawsBesides
namespace Go.Proofs.YtbkbmpnhjmcenaaDoor
open Go.RowKit

set_option maxHeartbeats 1000000 in
theorem take_no (q p nq np : Int) (d : Bool) (l s y : Int) (w : World) (h : ¬ okB q p nq np l s y) :
    Calls Tryd.prog 11 #[.agg #[.int .i64 q, .int .i64 p, .int .i64 nq, .int .i64 np, .bool d, .int .i64 l, .int .i64 s, .int .i64 y]] w fun e w' => e = .returned (.tuple #[.agg #[.int .i64 0, .int .i64 0, .int .i64 0, .int .i64 0, .bool false, .int .i64 0, .int .i64 0, .int .i64 0], .iface 49 (.int .i64 270)]) ∧ Below w.heap.size w w' := by
  have HV := Lib.hid h
  clear h
  go_enter Tryd.func11, Tryd.ntmps11
  go_wp2_with fail
  refine (bvalid_no q p nq np _ l s y _ HV.out).mono ?_
  rintro e w1 ⟨rfl, hb1⟩
  obtain ⟨hc1, hf1⟩ := bcell hb1
  have hz1 : w.heap.size + 1 < w1.heap.size := by have := hb1.size; simp at this; omega
  have hy1 : w.heap.size < w1.heap.size := by omega
  go_wp2_with fail
  exact bodyPost_ret (v := .tuple #[.agg #[.int .i64 0, .int .i64 0, .int .i64 0, .int .i64 0, .bool false, .int .i64 0, .int .i64 0, .int .i64 0], .iface 49 (.int .i64 270)]) (by simp [results, Tryd.results11, go_sem, hc1]) rfl ⟨rfl, below_set8 (bnext (((Below.refl _ _).alloc (Nat.le_refl _) _).alloc (by simp) _) hb1) (by omega) _ _ _ _ _ _ _ _⟩

set_option maxHeartbeats 1000000 in
theorem del_no (q p nq np : Int) (d : Bool) (l s y : Int) (w : World) (h : ¬ okB q p nq np l s y) :
    Calls Tryd.prog 13 #[.agg #[.int .i64 q, .int .i64 p, .int .i64 nq, .int .i64 np, .bool d, .int .i64 l, .int .i64 s, .int .i64 y]] w fun e w' => e = .returned (.tuple #[.agg #[.int .i64 0, .int .i64 0, .int .i64 0, .int .i64 0, .bool false, .int .i64 0, .int .i64 0, .int .i64 0], .iface 49 (.int .i64 270)]) ∧ Below w.heap.size w w' := by
  have HV := Lib.hid h
  clear h
  go_enter Tryd.func13, Tryd.ntmps13
  go_wp2_with fail
  refine (bvalid_no q p nq np _ l s y _ HV.out).mono ?_
  rintro e w1 ⟨rfl, hb1⟩
  obtain ⟨hc1, hf1⟩ := bcell hb1
  have hz1 : w.heap.size + 1 < w1.heap.size := by have := hb1.size; simp at this; omega
  have hy1 : w.heap.size < w1.heap.size := by omega
  go_wp2_with fail
  exact bodyPost_ret (v := .tuple #[.agg #[.int .i64 0, .int .i64 0, .int .i64 0, .int .i64 0, .bool false, .int .i64 0, .int .i64 0, .int .i64 0], .iface 49 (.int .i64 270)]) (by simp [results, Tryd.results13, go_sem, hc1]) rfl ⟨rfl, below_set8 (bnext (((Below.refl _ _).alloc (Nat.le_refl _) _).alloc (by simp) _) hb1) (by omega) _ _ _ _ _ _ _ _⟩

set_option maxHeartbeats 1000000 in
theorem take_none (q p nq np : Int) (d : Bool) (s y : Int) (w : World) (h : okB q p nq np 0 s y) :
    Calls Tryd.prog 11 #[.agg #[.int .i64 q, .int .i64 p, .int .i64 nq, .int .i64 np, .bool d, .int .i64 0, .int .i64 s, .int .i64 y]] w fun e w' => e = .returned (.tuple #[.agg #[.int .i64 0, .int .i64 0, .int .i64 0, .int .i64 0, .bool false, .int .i64 0, .int .i64 0, .int .i64 0], .iface 49 (.int .i64 50)]) ∧ Below w.heap.size w w' := by
  have HV := Lib.hid h
  clear h
  go_enter Tryd.func11, Tryd.ntmps11
  go_wp2_with fail
  refine (bvalid_ok q p nq np _ 0 s y _ HV.out).mono ?_
  rintro e w1 ⟨rfl, hb1⟩
  obtain ⟨hc1, hf1⟩ := bcell hb1
  have hz1 : w.heap.size + 1 < w1.heap.size := by have := hb1.size; simp at this; omega
  have hy1 : w.heap.size < w1.heap.size := by omega
  go_wp2_with fail
  exact bodyPost_ret (v := .tuple #[.agg #[.int .i64 0, .int .i64 0, .int .i64 0, .int .i64 0, .bool false, .int .i64 0, .int .i64 0, .int .i64 0], .iface 49 (.int .i64 50)]) (by simp [results, Tryd.results11, go_sem, hc1]) rfl ⟨rfl, below_set8 (bnext (((Below.refl _ _).alloc (Nat.le_refl _) _).alloc (by simp) _) hb1) (by omega) _ _ _ _ _ _ _ _⟩

set_option maxHeartbeats 1000000 in
theorem take_ok (q p nq np : Int) (d : Bool) (l s y : Int) (w : World) (h : okB q p nq np l s y) (hl : ¬ l = 0) :
    Calls Tryd.prog 11 #[.agg #[.int .i64 q, .int .i64 p, .int .i64 nq, .int .i64 np, .bool d, .int .i64 l, .int .i64 s, .int .i64 y]] w fun e w' => e = .returned (.tuple #[.agg #[.int .i64 q, .int .i64 p, .int .i64 nq, .int .i64 np, .bool d, .int .i64 (l - 1), .int .i64 s, .int .i64 y], .nilIface]) ∧ Below w.heap.size w w' := by
  have g1 : 0 < l := by have := h.l0; omega
  have g2 : l ≤ 1048576 := by have := h.lq; have := h.now.2; omega
  have g3 : (l == 0) = false := by simpa using hl
  have HV := Lib.hid h
  clear h
  clear hl
  go_enter Tryd.func11, Tryd.ntmps11
  go_wp2_with fail
  refine (bvalid_ok q p nq np _ l s y _ HV.out).mono ?_
  rintro e w1 ⟨rfl, hb1⟩
  obtain ⟨hc1, hf1⟩ := bcell hb1
  have hz1 : w.heap.size + 1 < w1.heap.size := by have := hb1.size; simp at this; omega
  have hy1 : w.heap.size < w1.heap.size := by omega
  have r5 : (w1.cell? ⟨w.heap.size, 5, none⟩).isSome = true := by rw [hc1 w.heap.size 5 (by simp; omega)]; go_simp
  go_wp2_with fail
  exact bodyPost_ret (v := .tuple #[.agg #[.int .i64 q, .int .i64 p, .int .i64 nq, .int .i64 np, .bool d, .int .i64 (l - 1), .int .i64 s, .int .i64 y], .nilIface]) (by simp [results, Tryd.results11, go_sem, hc1]) rfl ⟨rfl, below_set8 ((bnext (((Below.refl _ _).alloc (Nat.le_refl _) _).alloc (by simp) _) hb1).setCell (by simp) _) (by omega) _ _ _ _ _ _ _ _⟩

set_option maxHeartbeats 1000000 in
theorem del_dying (q p nq np : Int) (l s y : Int) (w : World) (h : okB q p nq np l s y) :
    Calls Tryd.prog 13 #[.agg #[.int .i64 q, .int .i64 p, .int .i64 nq, .int .i64 np, .bool true, .int .i64 l, .int .i64 s, .int .i64 y]] w fun e w' => e = .returned (.tuple #[.agg #[.int .i64 0, .int .i64 0, .int .i64 0, .int .i64 0, .bool false, .int .i64 0, .int .i64 0, .int .i64 0], .iface 49 (.int .i64 92)]) ∧ Below w.heap.size w w' := by
  have HV := Lib.hid h
  clear h
  go_enter Tryd.func13, Tryd.ntmps13
  go_wp2_with fail
  refine (bvalid_ok q p nq np _ l s y _ HV.out).mono ?_
  rintro e w1 ⟨rfl, hb1⟩
  obtain ⟨hc1, hf1⟩ := bcell hb1
  have hz1 : w.heap.size + 1 < w1.heap.size := by have := hb1.size; simp at this; omega
  have hy1 : w.heap.size < w1.heap.size := by omega
  go_wp2_with fail
  exact bodyPost_ret (v := .tuple #[.agg #[.int .i64 0, .int .i64 0, .int .i64 0, .int .i64 0, .bool false, .int .i64 0, .int .i64 0, .int .i64 0], .iface 49 (.int .i64 92)]) (by simp [results, Tryd.results13, go_sem, hc1]) rfl ⟨rfl, below_set8 (bnext (((Below.refl _ _).alloc (Nat.le_refl _) _).alloc (by simp) _) hb1) (by omega) _ _ _ _ _ _ _ _⟩

set_option maxHeartbeats 1000000 in
theorem del_ok (q p nq np : Int) (l s y : Int) (w : World) (h : okB q p nq np l s y) :
    Calls Tryd.prog 13 #[.agg #[.int .i64 q, .int .i64 p, .int .i64 nq, .int .i64 np, .bool false, .int .i64 l, .int .i64 s, .int .i64 y]] w fun e w' => e = .returned (.tuple #[.agg #[.int .i64 q, .int .i64 p, .int .i64 nq, .int .i64 np, .bool true, .int .i64 l, .int .i64 s, .int .i64 y], .nilIface]) ∧ Below w.heap.size w w' := by
  have HV := Lib.hid h
  clear h
  go_enter Tryd.func13, Tryd.ntmps13
  go_wp2_with fail
  refine (bvalid_ok q p nq np _ l s y _ HV.out).mono ?_
  rintro e w1 ⟨rfl, hb1⟩
  obtain ⟨hc1, hf1⟩ := bcell hb1
  have hz1 : w.heap.size + 1 < w1.heap.size := by have := hb1.size; simp at this; omega
  have hy1 : w.heap.size < w1.heap.size := by omega
  have r4 : (w1.cell? ⟨w.heap.size, 4, none⟩).isSome = true := by rw [hc1 w.heap.size 4 (by simp; omega)]; go_simp
  go_wp2_with fail
  exact bodyPost_ret (v := .tuple #[.agg #[.int .i64 q, .int .i64 p, .int .i64 nq, .int .i64 np, .bool true, .int .i64 l, .int .i64 s, .int .i64 y], .nilIface]) (by simp [results, Tryd.results13, go_sem, hc1]) rfl ⟨rfl, below_set8 ((bnext (((Below.refl _ _).alloc (Nat.le_refl _) _).alloc (by simp) _) hb1).setCell (by simp) _) (by omega) _ _ _ _ _ _ _ _⟩

set_option maxHeartbeats 1000000 in
theorem rs_no (q p nq np : Int) (d : Bool) (l s y q2 p2 : Int) (w : World) (h : ¬ okB q p nq np l s y) :
    Calls Tryd.prog 17 #[.agg #[.int .i64 q, .int .i64 p, .int .i64 nq, .int .i64 np, .bool d, .int .i64 l, .int .i64 s, .int .i64 y], .agg #[.int .i64 q2, .int .i64 p2]] w fun e w' => e = .returned (.tuple #[.agg #[.int .i64 0, .int .i64 0, .int .i64 0, .int .i64 0, .bool false, .int .i64 0, .int .i64 0, .int .i64 0], .iface 49 (.int .i64 270)]) ∧ Below w.heap.size w w' := by
  have HV := Lib.hid h
  clear h
  go_enter Tryd.func17, Tryd.ntmps17
  go_wp2_with fail
  refine (bvalid_no q p nq np _ l s y _ HV.out).mono ?_
  rintro e w1 ⟨rfl, hb1⟩
  obtain ⟨hc1, hf1⟩ := bcell hb1
  have hz1 : w.heap.size + 1 + 1 < w1.heap.size := by have := hb1.size; simp at this; omega
  have hy1 : w.heap.size + 1 < w1.heap.size := by omega
  have hx1 : w.heap.size < w1.heap.size := by omega
  go_wp2_with fail
  exact bodyPost_ret (v := .tuple #[.agg #[.int .i64 0, .int .i64 0, .int .i64 0, .int .i64 0, .bool false, .int .i64 0, .int .i64 0, .int .i64 0], .iface 49 (.int .i64 270)]) (by simp [results, Tryd.results17, go_sem, hc1]) rfl ⟨rfl, below_set8 (bnext ((((Below.refl _ _).alloc (Nat.le_refl _) _).alloc (by simp) _).alloc (by simp; omega) _) hb1) (by omega) _ _ _ _ _ _ _ _⟩

set_option maxHeartbeats 1000000 in
theorem rs_range (q p nq np : Int) (d : Bool) (l s y q2 p2 : Int) (w : World) (h : okB q p nq np l s y) (g : ¬ okR q2 p2) :
    Calls Tryd.prog 17 #[.agg #[.int .i64 q, .int .i64 p, .int .i64 nq, .int .i64 np, .bool d, .int .i64 l, .int .i64 s, .int .i64 y], .agg #[.int .i64 q2, .int .i64 p2]] w fun e w' => e = .returned (.tuple #[.agg #[.int .i64 0, .int .i64 0, .int .i64 0, .int .i64 0, .bool false, .int .i64 0, .int .i64 0, .int .i64 0], .iface 49 (.int .i64 2)]) ∧ Below w.heap.size w w' := by
  have HV := Lib.hid h
  have HR := Lib.hid g
  clear h g
  go_enter Tryd.func17, Tryd.ntmps17
  go_wp2_with fail
  refine (bvalid_ok q p nq np _ l s y _ HV.out).mono ?_
  rintro e w1 ⟨rfl, hb1⟩
  obtain ⟨hc1, hf1⟩ := bcell hb1
  have hz1 : w.heap.size + 1 + 1 < w1.heap.size := by have := hb1.size; simp at this; omega
  have hy1 : w.heap.size + 1 < w1.heap.size := by omega
  have hx1 : w.heap.size < w1.heap.size := by omega
  go_wp2_with fail
  refine (valid_no q2 p2 _ HR.out).mono ?_
  rintro e w2 ⟨rfl, hb2⟩
  obtain ⟨hc2, hf2⟩ := bcell hb2
  have hz2 : w.heap.size + 1 + 1 < w2.heap.size := by have := hb2.size; omega
  have hy2 : w.heap.size + 1 < w2.heap.size := by omega
  have hx2 : w.heap.size < w2.heap.size := by omega
  go_wp2_with fail
  exact bodyPost_ret (v := .tuple #[.agg #[.int .i64 0, .int .i64 0, .int .i64 0, .int .i64 0, .bool false, .int .i64 0, .int .i64 0, .int .i64 0], .iface 49 (.int .i64 2)]) (by simp [results, Tryd.results17, go_sem, hc1, hc2, hz1]) rfl ⟨rfl, below_set8 (bnext (bnext ((((Below.refl _ _).alloc (Nat.le_refl _) _).alloc (by simp) _).alloc (by simp; omega) _) hb1) hb2) (by omega) _ _ _ _ _ _ _ _⟩

set_option maxHeartbeats 1000000 in
theorem rs_dying (q p nq np : Int) (l s y q2 p2 : Int) (w : World) (h : okB q p nq np l s y) (g : okR q2 p2) :
    Calls Tryd.prog 17 #[.agg #[.int .i64 q, .int .i64 p, .int .i64 nq, .int .i64 np, .bool true, .int .i64 l, .int .i64 s, .int .i64 y], .agg #[.int .i64 q2, .int .i64 p2]] w fun e w' => e = .returned (.tuple #[.agg #[.int .i64 0, .int .i64 0, .int .i64 0, .int .i64 0, .bool false, .int .i64 0, .int .i64 0, .int .i64 0], .iface 49 (.int .i64 92)]) ∧ Below w.heap.size w w' := by
  have HV := Lib.hid h
  have HR := Lib.hid g
  clear h g
  go_enter Tryd.func17, Tryd.ntmps17
  go_wp2_with fail
  refine (bvalid_ok q p nq np _ l s y _ HV.out).mono ?_
  rintro e w1 ⟨rfl, hb1⟩
  obtain ⟨hc1, hf1⟩ := bcell hb1
  have hz1 : w.heap.size + 1 + 1 < w1.heap.size := by have := hb1.size; simp at this; omega
  have hy1 : w.heap.size + 1 < w1.heap.size := by omega
  have hx1 : w.heap.size < w1.heap.size := by omega
  go_wp2_with fail
  refine (valid_ok q2 p2 _ HR.out).mono ?_
  rintro e w2 ⟨rfl, hb2⟩
  obtain ⟨hc2, hf2⟩ := bcell hb2
  have hz2 : w.heap.size + 1 + 1 < w2.heap.size := by have := hb2.size; omega
  have hy2 : w.heap.size + 1 < w2.heap.size := by omega
  have hx2 : w.heap.size < w2.heap.size := by omega
  go_wp2_with fail
  exact bodyPost_ret (v := .tuple #[.agg #[.int .i64 0, .int .i64 0, .int .i64 0, .int .i64 0, .bool false, .int .i64 0, .int .i64 0, .int .i64 0], .iface 49 (.int .i64 92)]) (by simp [results, Tryd.results17, go_sem, hc1, hc2, hz1]) rfl ⟨rfl, below_set8 (bnext (bnext ((((Below.refl _ _).alloc (Nat.le_refl _) _).alloc (by simp) _).alloc (by simp; omega) _) hb1) hb2) (by omega) _ _ _ _ _ _ _ _⟩

set_option maxHeartbeats 1000000 in
theorem rs_new1 (q p nq np : Int) (l s y q2 p2 : Int) (w : World) (h : okB q p nq np l s y) (g : okR q2 p2) (k : ¬ q2 = q) :
    Calls Tryd.prog 17 #[.agg #[.int .i64 q, .int .i64 p, .int .i64 nq, .int .i64 np, .bool false, .int .i64 l, .int .i64 s, .int .i64 y], .agg #[.int .i64 q2, .int .i64 p2]] w fun e w' => e = .returned (.tuple #[.agg #[.int .i64 q, .int .i64 p, .int .i64 q2, .int .i64 p2, .bool false, .int .i64 l, .int .i64 s, .int .i64 y], .nilIface]) ∧ Below w.heap.size w w' := by
  have k1 : (q2 == q) = false := by simpa using k
  clear k
  have HV := Lib.hid h
  have HR := Lib.hid g
  clear h g
  go_enter Tryd.func17, Tryd.ntmps17
  go_wp2_with fail
  refine (bvalid_ok q p nq np _ l s y _ HV.out).mono ?_
  rintro e w1 ⟨rfl, hb1⟩
  obtain ⟨hc1, hf1⟩ := bcell hb1
  have hz1 : w.heap.size + 1 + 1 < w1.heap.size := by have := hb1.size; simp at this; omega
  have hy1 : w.heap.size + 1 < w1.heap.size := by omega
  have hx1 : w.heap.size < w1.heap.size := by omega
  go_wp2_with fail
  refine (valid_ok q2 p2 _ HR.out).mono ?_
  rintro e w2 ⟨rfl, hb2⟩
  obtain ⟨hc2, hf2⟩ := bcell hb2
  have hz2 : w.heap.size + 1 + 1 < w2.heap.size := by have := hb2.size; omega
  have hy2 : w.heap.size + 1 < w2.heap.size := by omega
  have hx2 : w.heap.size < w2.heap.size := by omega
  have c0 : w2.cell? ⟨w.heap.size, 0, none⟩ = some (.int .i64 q) := by rw [hc2 (w.heap.size) 0 (by omega), hc1 (w.heap.size) 0 (by simp <;> omega)]; go_simp
  have c1 : w2.cell? ⟨w.heap.size, 1, none⟩ = some (.int .i64 p) := by rw [hc2 (w.heap.size) 1 (by omega), hc1 (w.heap.size) 1 (by simp <;> omega)]; go_simp
  have c2 : w2.cell? ⟨w.heap.size, 2, none⟩ = some (.int .i64 nq) := by rw [hc2 (w.heap.size) 2 (by omega), hc1 (w.heap.size) 2 (by simp <;> omega)]; go_simp
  have c3 : w2.cell? ⟨w.heap.size, 3, none⟩ = some (.int .i64 np) := by rw [hc2 (w.heap.size) 3 (by omega), hc1 (w.heap.size) 3 (by simp <;> omega)]; go_simp
  have c4 : w2.cell? ⟨w.heap.size, 4, none⟩ = some (.bool false) := by rw [hc2 (w.heap.size) 4 (by omega), hc1 (w.heap.size) 4 (by simp <;> omega)]; go_simp
  have c5 : w2.cell? ⟨w.heap.size, 5, none⟩ = some (.int .i64 l) := by rw [hc2 (w.heap.size) 5 (by omega), hc1 (w.heap.size) 5 (by simp <;> omega)]; go_simp
  have c6 : w2.cell? ⟨w.heap.size, 6, none⟩ = some (.int .i64 s) := by rw [hc2 (w.heap.size) 6 (by omega), hc1 (w.heap.size) 6 (by simp <;> omega)]; go_simp
  have c7 : w2.cell? ⟨w.heap.size, 7, none⟩ = some (.int .i64 y) := by rw [hc2 (w.heap.size) 7 (by omega), hc1 (w.heap.size) 7 (by simp <;> omega)]; go_simp
  have d0 : w2.cell? ⟨w.heap.size + 1, 0, none⟩ = some (.int .i64 q2) := by rw [hc2 (w.heap.size + 1) 0 (by omega), hc1 (w.heap.size + 1) 0 (by simp <;> omega)]; go_simp
  have d1 : w2.cell? ⟨w.heap.size + 1, 1, none⟩ = some (.int .i64 p2) := by rw [hc2 (w.heap.size + 1) 1 (by omega), hc1 (w.heap.size + 1) 1 (by simp <;> omega)]; go_simp
  have z0 : w2.cell? ⟨w.heap.size + 1 + 1, 0, none⟩ = some (.int .i64 0) := by rw [hc2 (w.heap.size + 1 + 1) 0 (by omega), hc1 (w.heap.size + 1 + 1) 0 (by simp <;> omega)]; go_simp
  have z1 : w2.cell? ⟨w.heap.size + 1 + 1, 1, none⟩ = some (.int .i64 0) := by rw [hc2 (w.heap.size + 1 + 1) 1 (by omega), hc1 (w.heap.size + 1 + 1) 1 (by simp <;> omega)]; go_simp
  have z2 : w2.cell? ⟨w.heap.size + 1 + 1, 2, none⟩ = some (.int .i64 0) := by rw [hc2 (w.heap.size + 1 + 1) 2 (by omega), hc1 (w.heap.size + 1 + 1) 2 (by simp <;> omega)]; go_simp
  have z3 : w2.cell? ⟨w.heap.size + 1 + 1, 3, none⟩ = some (.int .i64 0) := by rw [hc2 (w.heap.size + 1 + 1) 3 (by omega), hc1 (w.heap.size + 1 + 1) 3 (by simp <;> omega)]; go_simp
  have z4 : w2.cell? ⟨w.heap.size + 1 + 1, 4, none⟩ = some (.bool false) := by rw [hc2 (w.heap.size + 1 + 1) 4 (by omega), hc1 (w.heap.size + 1 + 1) 4 (by simp <;> omega)]; go_simp
  have z5 : w2.cell? ⟨w.heap.size + 1 + 1, 5, none⟩ = some (.int .i64 0) := by rw [hc2 (w.heap.size + 1 + 1) 5 (by omega), hc1 (w.heap.size + 1 + 1) 5 (by simp <;> omega)]; go_simp
  have z6 : w2.cell? ⟨w.heap.size + 1 + 1, 6, none⟩ = some (.int .i64 0) := by rw [hc2 (w.heap.size + 1 + 1) 6 (by omega), hc1 (w.heap.size + 1 + 1) 6 (by simp <;> omega)]; go_simp
  have z7 : w2.cell? ⟨w.heap.size + 1 + 1, 7, none⟩ = some (.int .i64 0) := by rw [hc2 (w.heap.size + 1 + 1) 7 (by omega), hc1 (w.heap.size + 1 + 1) 7 (by simp <;> omega)]; go_simp
  clear hc1 hc2
  go_wp2_with fail
  exact bodyPost_ret (v := .tuple #[.agg #[.int .i64 q, .int .i64 p, .int .i64 q2, .int .i64 p2, .bool false, .int .i64 l, .int .i64 s, .int .i64 y], .nilIface]) (by simp [results, Tryd.results17, go_sem, z0, z1, z2, z3, z4, z5, z6, z7]) rfl ⟨rfl, below_set8 (((bnext (bnext ((((Below.refl _ _).alloc (Nat.le_refl _) _).alloc (by simp) _).alloc (by simp; omega) _) hb1) hb2).setCell (by simp) _).setCell (by simp) _) (by omega) _ _ _ _ _ _ _ _⟩

set_option maxHeartbeats 1000000 in
theorem rs_new2 (q p nq np : Int) (l s y p2 : Int) (w : World) (h : okB q p nq np l s y) (g : okR q p2) (k : ¬ p2 = p) :
    Calls Tryd.prog 17 #[.agg #[.int .i64 q, .int .i64 p, .int .i64 nq, .int .i64 np, .bool false, .int .i64 l, .int .i64 s, .int .i64 y], .agg #[.int .i64 q, .int .i64 p2]] w fun e w' => e = .returned (.tuple #[.agg #[.int .i64 q, .int .i64 p, .int .i64 q, .int .i64 p2, .bool false, .int .i64 l, .int .i64 s, .int .i64 y], .nilIface]) ∧ Below w.heap.size w w' := by
  have k1 : (p2 == p) = false := by simpa using k
  clear k
  have HV := Lib.hid h
  have HR := Lib.hid g
  clear h g
  go_enter Tryd.func17, Tryd.ntmps17
  go_wp2_with fail
  refine (bvalid_ok q p nq np _ l s y _ HV.out).mono ?_
  rintro e w1 ⟨rfl, hb1⟩
  obtain ⟨hc1, hf1⟩ := bcell hb1
  have hz1 : w.heap.size + 1 + 1 < w1.heap.size := by have := hb1.size; simp at this; omega
  have hy1 : w.heap.size + 1 < w1.heap.size := by omega
  have hx1 : w.heap.size < w1.heap.size := by omega
  go_wp2_with fail
  refine (valid_ok q p2 _ HR.out).mono ?_
  rintro e w2 ⟨rfl, hb2⟩
  obtain ⟨hc2, hf2⟩ := bcell hb2
  have hz2 : w.heap.size + 1 + 1 < w2.heap.size := by have := hb2.size; omega
  have hy2 : w.heap.size + 1 < w2.heap.size := by omega
  have hx2 : w.heap.size < w2.heap.size := by omega
  have c0 : w2.cell? ⟨w.heap.size, 0, none⟩ = some (.int .i64 q) := by rw [hc2 (w.heap.size) 0 (by omega), hc1 (w.heap.size) 0 (by simp <;> omega)]; go_simp
  have c1 : w2.cell? ⟨w.heap.size, 1, none⟩ = some (.int .i64 p) := by rw [hc2 (w.heap.size) 1 (by omega), hc1 (w.heap.size) 1 (by simp <;> omega)]; go_simp
  have c2 : w2.cell? ⟨w.heap.size, 2, none⟩ = some (.int .i64 nq) := by rw [hc2 (w.heap.size) 2 (by omega), hc1 (w.heap.size) 2 (by simp <;> omega)]; go_simp
  have c3 : w2.cell? ⟨w.heap.size, 3, none⟩ = some (.int .i64 np) := by rw [hc2 (w.heap.size) 3 (by omega), hc1 (w.heap.size) 3 (by simp <;> omega)]; go_simp
  have c4 : w2.cell? ⟨w.heap.size, 4, none⟩ = some (.bool false) := by rw [hc2 (w.heap.size) 4 (by omega), hc1 (w.heap.size) 4 (by simp <;> omega)]; go_simp
  have c5 : w2.cell? ⟨w.heap.size, 5, none⟩ = some (.int .i64 l) := by rw [hc2 (w.heap.size) 5 (by omega), hc1 (w.heap.size) 5 (by simp <;> omega)]; go_simp
  have c6 : w2.cell? ⟨w.heap.size, 6, none⟩ = some (.int .i64 s) := by rw [hc2 (w.heap.size) 6 (by omega), hc1 (w.heap.size) 6 (by simp <;> omega)]; go_simp
  have c7 : w2.cell? ⟨w.heap.size, 7, none⟩ = some (.int .i64 y) := by rw [hc2 (w.heap.size) 7 (by omega), hc1 (w.heap.size) 7 (by simp <;> omega)]; go_simp
  have d0 : w2.cell? ⟨w.heap.size + 1, 0, none⟩ = some (.int .i64 q) := by rw [hc2 (w.heap.size + 1) 0 (by omega), hc1 (w.heap.size + 1) 0 (by simp <;> omega)]; go_simp
  have d1 : w2.cell? ⟨w.heap.size + 1, 1, none⟩ = some (.int .i64 p2) := by rw [hc2 (w.heap.size + 1) 1 (by omega), hc1 (w.heap.size + 1) 1 (by simp <;> omega)]; go_simp
  have z0 : w2.cell? ⟨w.heap.size + 1 + 1, 0, none⟩ = some (.int .i64 0) := by rw [hc2 (w.heap.size + 1 + 1) 0 (by omega), hc1 (w.heap.size + 1 + 1) 0 (by simp <;> omega)]; go_simp
  have z1 : w2.cell? ⟨w.heap.size + 1 + 1, 1, none⟩ = some (.int .i64 0) := by rw [hc2 (w.heap.size + 1 + 1) 1 (by omega), hc1 (w.heap.size + 1 + 1) 1 (by simp <;> omega)]; go_simp
  have z2 : w2.cell? ⟨w.heap.size + 1 + 1, 2, none⟩ = some (.int .i64 0) := by rw [hc2 (w.heap.size + 1 + 1) 2 (by omega), hc1 (w.heap.size + 1 + 1) 2 (by simp <;> omega)]; go_simp
  have z3 : w2.cell? ⟨w.heap.size + 1 + 1, 3, none⟩ = some (.int .i64 0) := by rw [hc2 (w.heap.size + 1 + 1) 3 (by omega), hc1 (w.heap.size + 1 + 1) 3 (by simp <;> omega)]; go_simp
  have z4 : w2.cell? ⟨w.heap.size + 1 + 1, 4, none⟩ = some (.bool false) := by rw [hc2 (w.heap.size + 1 + 1) 4 (by omega), hc1 (w.heap.size + 1 + 1) 4 (by simp <;> omega)]; go_simp
  have z5 : w2.cell? ⟨w.heap.size + 1 + 1, 5, none⟩ = some (.int .i64 0) := by rw [hc2 (w.heap.size + 1 + 1) 5 (by omega), hc1 (w.heap.size + 1 + 1) 5 (by simp <;> omega)]; go_simp
  have z6 : w2.cell? ⟨w.heap.size + 1 + 1, 6, none⟩ = some (.int .i64 0) := by rw [hc2 (w.heap.size + 1 + 1) 6 (by omega), hc1 (w.heap.size + 1 + 1) 6 (by simp <;> omega)]; go_simp
  have z7 : w2.cell? ⟨w.heap.size + 1 + 1, 7, none⟩ = some (.int .i64 0) := by rw [hc2 (w.heap.size + 1 + 1) 7 (by omega), hc1 (w.heap.size + 1 + 1) 7 (by simp <;> omega)]; go_simp
  clear hc1 hc2
  go_wp2_with fail
  exact bodyPost_ret (v := .tuple #[.agg #[.int .i64 q, .int .i64 p, .int .i64 q, .int .i64 p2, .bool false, .int .i64 l, .int .i64 s, .int .i64 y], .nilIface]) (by simp [results, Tryd.results17, go_sem, z0, z1, z2, z3, z4, z5, z6, z7]) rfl ⟨rfl, below_set8 (((bnext (bnext ((((Below.refl _ _).alloc (Nat.le_refl _) _).alloc (by simp) _).alloc (by simp; omega) _) hb1) hb2).setCell (by simp) _).setCell (by simp) _) (by omega) _ _ _ _ _ _ _ _⟩

/-- A pending reservation's share: 0 where nothing is pending. -/
def nextShare (nq np : Int) : Int := if nq = 0 then 0 else shareOf nq np
theorem ret_int2 {a b : Int} {x : Value} (h : a = b) : Ending.returned (.tuple #[.int .i64 a, x]) = .returned (.tuple #[.int .i64 b, x]) := by rw [h]
theorem share_pos (q p : Int) (h : okR q p) : 0 ≤ shareOf q p := by
  obtain ⟨h1, h2, h3⟩ := h
  exact Int.ediv_nonneg (by omega) (by omega)
set_option maxHeartbeats 1000000 in
theorem res_no (q p nq np : Int) (d : Bool) (l s y : Int) (w : World) (h : ¬ okB q p nq np l s y) :
    Calls Tryd.prog 19 #[.agg #[.int .i64 q, .int .i64 p, .int .i64 nq, .int .i64 np, .bool d, .int .i64 l, .int .i64 s, .int .i64 y]] w fun e w' => e = .returned (.tuple #[.int .i64 0, .iface 49 (.int .i64 270)]) ∧ Below w.heap.size w w' := by
  have HV := Lib.hid h
  clear h
  go_enter Tryd.func19, Tryd.ntmps19
  go_wp2_with fail
  refine (bvalid_no q p nq np _ l s y _ HV.out).mono ?_
  rintro e w1 ⟨rfl, hb1⟩
  obtain ⟨hc1, hf1⟩ := bcell hb1
  go_wp2_with fail
  go_ret2
  exact ⟨rfl, bnext ((Below.refl _ _).alloc (Nat.le_refl _) _) hb1⟩

set_option maxHeartbeats 1000000 in
theorem res_next (q p nq np : Int) (d : Bool) (l s y : Int) (w : World) (h : okB q p nq np l s y) (g : okR nq np) :
    Calls Tryd.prog 19 #[.agg #[.int .i64 q, .int .i64 p, .int .i64 nq, .int .i64 np, .bool d, .int .i64 l, .int .i64 s, .int .i64 y]] w fun e w' => e = .returned (.tuple #[.int .i64 (max (shareOf q p) (shareOf nq np)), .nilIface]) ∧ Below w.heap.size w w' := by
  have HN := Lib.hid h.now
  have HV := Lib.hid h
  have HR := Lib.hid g
  clear h g
  go_enter Tryd.func19, Tryd.ntmps19
  go_wp2_with fail
  refine (bvalid_ok q p nq np _ l s y _ HV.out).mono ?_
  rintro e w1 ⟨rfl, hb1⟩
  obtain ⟨hc1, hf1⟩ := bcell hb1
  have hz1 : w.heap.size < w1.heap.size := by have := hb1.size; simp at this; omega
  go_wp2_with fail
  refine (share_ok q p _ HN.out).mono ?_
  rintro e w2 ⟨rfl, hb2⟩
  obtain ⟨hc2, hf2⟩ := bcell hb2
  have hz2 : w.heap.size < w2.heap.size := by have := hb2.size; omega
  go_wp2_with fail
  refine (share_ok nq np _ HR.out).mono ?_
  rintro e w3 ⟨rfl, hb3⟩
  obtain ⟨hc3, hf3⟩ := bcell hb3
  go_wp2_with fail
  all_goals
    go_ret2
    exact ⟨ret_int2 (by omega), bnext (bnext (bnext ((Below.refl _ _).alloc (Nat.le_refl _) _) hb1) hb2) hb3⟩

set_option maxHeartbeats 1000000 in
theorem res_zero (q p : Int) (d : Bool) (l s y : Int) (w : World) (h : okB q p 0 0 l s y) :
    Calls Tryd.prog 19 #[.agg #[.int .i64 q, .int .i64 p, .int .i64 0, .int .i64 0, .bool d, .int .i64 l, .int .i64 s, .int .i64 y]] w fun e w' => e = .returned (.tuple #[.int .i64 (shareOf q p), .nilIface]) ∧ Below w.heap.size w w' := by
  have HN := Lib.hid h.now
  have HZ : Hid (¬ okR 0 0) := Lib.hid (fun k => by have := k.1; omega)
  have g0 := share_pos q p h.now
  have HV := Lib.hid h
  clear h
  go_enter Tryd.func19, Tryd.ntmps19
  go_wp2_with fail
  refine (bvalid_ok q p 0 0 _ l s y _ HV.out).mono ?_
  rintro e w1 ⟨rfl, hb1⟩
  obtain ⟨hc1, hf1⟩ := bcell hb1
  have hz1 : w.heap.size < w1.heap.size := by have := hb1.size; simp at this; omega
  go_wp2_with fail
  refine (share_ok q p _ HN.out).mono ?_
  rintro e w2 ⟨rfl, hb2⟩
  obtain ⟨hc2, hf2⟩ := bcell hb2
  have hz2 : w.heap.size < w2.heap.size := by have := hb2.size; omega
  go_wp2_with fail
  refine (share_no 0 0 _ HZ.out).mono ?_
  rintro e w3 ⟨rfl, hb3⟩
  obtain ⟨hc3, hf3⟩ := bcell hb3
  go_wp2_with fail
  all_goals
    go_ret2
    exact ⟨ret_int2 (by omega), bnext (bnext (bnext ((Below.refl _ _).alloc (Nat.le_refl _) _) hb1) hb2) hb3⟩

end Go.Proofs.YtbkbmpnhjmcenaaDoor
