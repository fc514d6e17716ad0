/- The document's package titheref07: whether a budget may be, for every budget; no condition. -/
import Derived.Test.YtbkbmpnhjmcenaaDoorBVal
namespace Go.Proofs.YtbkbmpnhjmcenaaDoor
open Go.RowKit

set_option maxHeartbeats 1000000 in
theorem rv_zero_ok (q p : Int) (d : Bool) (l s y : Int) (w : World) (h :  okR q p) (a1 : 0 ≤ l) (a2 : l ≤ q) (a3 : 0 ≤ s) (a4 : s ≤ 1073741824) (a5 : y = s + p) :
    Calls Tryd.prog 16 #[.agg #[.int .i64 q, .int .i64 p, .int .i64 0, .int .i64 0, .bool d, .int .i64 l, .int .i64 s, .int .i64 y]] w fun e w' => e = .returned (.int .i64 0) ∧ Below w.heap.size w w' := by
  obtain ⟨n1, n2, n3⟩ := id h
  subst a5
  have HV := Lib.hid h
  clear h
  go_enter Tryd.func16, Tryd.ntmps16
  go_wp2_with fail
  refine (rvalid_ok q p _ HV.out).mono ?_
  rintro e w1 ⟨rfl, hb1⟩
  obtain ⟨hc1, hf1⟩ := bcell hb1
  go_wp2_with fail
  go_ret
  exact ⟨rfl, bnext ((Below.refl _ _).alloc (Nat.le_refl _) _) hb1⟩

set_option maxHeartbeats 1000000 in
theorem rv_zero_now (q p : Int) (d : Bool) (l s y : Int) (w : World) (h : ¬ okR q p) :
    Calls Tryd.prog 16 #[.agg #[.int .i64 q, .int .i64 p, .int .i64 0, .int .i64 0, .bool d, .int .i64 l, .int .i64 s, .int .i64 y]] w fun e w' => e = .returned (.int .i64 270) ∧ Below w.heap.size w w' := by
  have HV := Lib.hid h
  clear h
  go_enter Tryd.func16, Tryd.ntmps16
  go_wp2_with fail
  refine (rvalid_no q p _ HV.out).mono ?_
  rintro e w1 ⟨rfl, hb1⟩
  obtain ⟨hc1, hf1⟩ := bcell hb1
  go_wp2_with fail
  go_ret
  exact ⟨rfl, bnext ((Below.refl _ _).alloc (Nat.le_refl _) _) hb1⟩

set_option maxHeartbeats 1000000 in
theorem rv_zero_l0 (q p : Int) (d : Bool) (l s y : Int) (w : World) (h :  okR q p) (a1 : l < 0) :
    Calls Tryd.prog 16 #[.agg #[.int .i64 q, .int .i64 p, .int .i64 0, .int .i64 0, .bool d, .int .i64 l, .int .i64 s, .int .i64 y]] w fun e w' => e = .returned (.int .i64 270) ∧ Below w.heap.size w w' := by
  obtain ⟨n1, n2, n3⟩ := id h
  have HV := Lib.hid h
  clear h
  go_enter Tryd.func16, Tryd.ntmps16
  go_wp2_with fail
  refine (rvalid_ok q p _ HV.out).mono ?_
  rintro e w1 ⟨rfl, hb1⟩
  obtain ⟨hc1, hf1⟩ := bcell hb1
  go_wp2_with fail
  go_ret
  exact ⟨rfl, bnext ((Below.refl _ _).alloc (Nat.le_refl _) _) hb1⟩

set_option maxHeartbeats 1000000 in
theorem rv_zero_lq (q p : Int) (d : Bool) (l s y : Int) (w : World) (h :  okR q p) (a1 : 0 ≤ l) (a2 : q < l) :
    Calls Tryd.prog 16 #[.agg #[.int .i64 q, .int .i64 p, .int .i64 0, .int .i64 0, .bool d, .int .i64 l, .int .i64 s, .int .i64 y]] w fun e w' => e = .returned (.int .i64 270) ∧ Below w.heap.size w w' := by
  obtain ⟨n1, n2, n3⟩ := id h
  have HV := Lib.hid h
  clear h
  go_enter Tryd.func16, Tryd.ntmps16
  go_wp2_with fail
  refine (rvalid_ok q p _ HV.out).mono ?_
  rintro e w1 ⟨rfl, hb1⟩
  obtain ⟨hc1, hf1⟩ := bcell hb1
  go_wp2_with fail
  go_ret
  exact ⟨rfl, bnext ((Below.refl _ _).alloc (Nat.le_refl _) _) hb1⟩

set_option maxHeartbeats 1000000 in
theorem rv_zero_s0 (q p : Int) (d : Bool) (l s y : Int) (w : World) (h :  okR q p) (a1 : 0 ≤ l) (a2 : l ≤ q) (a3 : s < 0) :
    Calls Tryd.prog 16 #[.agg #[.int .i64 q, .int .i64 p, .int .i64 0, .int .i64 0, .bool d, .int .i64 l, .int .i64 s, .int .i64 y]] w fun e w' => e = .returned (.int .i64 270) ∧ Below w.heap.size w w' := by
  obtain ⟨n1, n2, n3⟩ := id h
  have HV := Lib.hid h
  clear h
  go_enter Tryd.func16, Tryd.ntmps16
  go_wp2_with fail
  refine (rvalid_ok q p _ HV.out).mono ?_
  rintro e w1 ⟨rfl, hb1⟩
  obtain ⟨hc1, hf1⟩ := bcell hb1
  go_wp2_with fail
  go_ret
  exact ⟨rfl, bnext ((Below.refl _ _).alloc (Nat.le_refl _) _) hb1⟩

set_option maxHeartbeats 1000000 in
theorem rv_zero_s1 (q p : Int) (d : Bool) (l s y : Int) (w : World) (h :  okR q p) (a1 : 0 ≤ l) (a2 : l ≤ q) (a3 : 0 ≤ s) (a4 : 1073741824 < s) :
    Calls Tryd.prog 16 #[.agg #[.int .i64 q, .int .i64 p, .int .i64 0, .int .i64 0, .bool d, .int .i64 l, .int .i64 s, .int .i64 y]] w fun e w' => e = .returned (.int .i64 270) ∧ Below w.heap.size w w' := by
  obtain ⟨n1, n2, n3⟩ := id h
  have HV := Lib.hid h
  clear h
  go_enter Tryd.func16, Tryd.ntmps16
  go_wp2_with fail
  refine (rvalid_ok q p _ HV.out).mono ?_
  rintro e w1 ⟨rfl, hb1⟩
  obtain ⟨hc1, hf1⟩ := bcell hb1
  go_wp2_with fail
  go_ret
  exact ⟨rfl, bnext ((Below.refl _ _).alloc (Nat.le_refl _) _) hb1⟩

set_option maxHeartbeats 1000000 in
theorem rv_zero_y (q p : Int) (d : Bool) (l s y : Int) (w : World) (h :  okR q p) (a1 : 0 ≤ l) (a2 : l ≤ q) (a3 : 0 ≤ s) (a4 : s ≤ 1073741824) (a5 : ¬ y = s + p) :
    Calls Tryd.prog 16 #[.agg #[.int .i64 q, .int .i64 p, .int .i64 0, .int .i64 0, .bool d, .int .i64 l, .int .i64 s, .int .i64 y]] w fun e w' => e = .returned (.int .i64 270) ∧ Below w.heap.size w w' := by
  obtain ⟨n1, n2, n3⟩ := id h
  have a6 : (y == s + p) = false := by simpa using a5
  have a7 : (y != s + p) = true := by simpa using a5
  clear a5
  have HV := Lib.hid h
  clear h
  go_enter Tryd.func16, Tryd.ntmps16
  go_wp2_with fail
  refine (rvalid_ok q p _ HV.out).mono ?_
  rintro e w1 ⟨rfl, hb1⟩
  obtain ⟨hc1, hf1⟩ := bcell hb1
  go_wp2_with fail
  go_ret
  exact ⟨rfl, bnext ((Below.refl _ _).alloc (Nat.le_refl _) _) hb1⟩

set_option maxHeartbeats 1000000 in
theorem rv_okA_ok (q p nq np : Int) (d : Bool) (l s y : Int) (w : World) (g : okR nq np) (k : ¬ nq = q) (h :  okR q p) (a1 : 0 ≤ l) (a2 : l ≤ q) (a3 : 0 ≤ s) (a4 : s ≤ 1073741824) (a5 : y = s + p) :
    Calls Tryd.prog 16 #[.agg #[.int .i64 q, .int .i64 p, .int .i64 nq, .int .i64 np, .bool d, .int .i64 l, .int .i64 s, .int .i64 y]] w fun e w' => e = .returned (.int .i64 0) ∧ Below w.heap.size w w' := by
  have z1 : (nq == 0) = false := by have := g.1; simp; omega
  have k1 : (nq == q) = false := by simpa using k
  clear k
  have HR := Lib.hid g
  clear g
  obtain ⟨n1, n2, n3⟩ := id h
  subst a5
  have HV := Lib.hid h
  clear h
  go_enter Tryd.func16, Tryd.ntmps16
  go_wp2_with fail
  refine (rvalid_ok nq np _ HR.out).mono ?_
  rintro e w1 ⟨rfl, hb1⟩
  obtain ⟨hc1, hf1⟩ := bcell hb1
  have hz1 : w.heap.size < w1.heap.size := by have := hb1.size; simp at this; omega
  go_wp2_with fail
  refine (rvalid_ok q p _ HV.out).mono ?_
  rintro e w2 ⟨rfl, hb2⟩
  obtain ⟨hc2, hf2⟩ := bcell hb2
  go_wp2_with fail
  go_ret
  exact ⟨rfl, bnext (bnext ((Below.refl _ _).alloc (Nat.le_refl _) _) hb1) hb2⟩

set_option maxHeartbeats 1000000 in
theorem rv_okA_now (q p nq np : Int) (d : Bool) (l s y : Int) (w : World) (g : okR nq np) (k : ¬ nq = q) (h : ¬ okR q p) :
    Calls Tryd.prog 16 #[.agg #[.int .i64 q, .int .i64 p, .int .i64 nq, .int .i64 np, .bool d, .int .i64 l, .int .i64 s, .int .i64 y]] w fun e w' => e = .returned (.int .i64 270) ∧ Below w.heap.size w w' := by
  have z1 : (nq == 0) = false := by have := g.1; simp; omega
  have k1 : (nq == q) = false := by simpa using k
  clear k
  have HR := Lib.hid g
  clear g
  have HV := Lib.hid h
  clear h
  go_enter Tryd.func16, Tryd.ntmps16
  go_wp2_with fail
  refine (rvalid_ok nq np _ HR.out).mono ?_
  rintro e w1 ⟨rfl, hb1⟩
  obtain ⟨hc1, hf1⟩ := bcell hb1
  have hz1 : w.heap.size < w1.heap.size := by have := hb1.size; simp at this; omega
  go_wp2_with fail
  refine (rvalid_no q p _ HV.out).mono ?_
  rintro e w2 ⟨rfl, hb2⟩
  obtain ⟨hc2, hf2⟩ := bcell hb2
  go_wp2_with fail
  go_ret
  exact ⟨rfl, bnext (bnext ((Below.refl _ _).alloc (Nat.le_refl _) _) hb1) hb2⟩

set_option maxHeartbeats 1000000 in
theorem rv_okA_l0 (q p nq np : Int) (d : Bool) (l s y : Int) (w : World) (g : okR nq np) (k : ¬ nq = q) (h :  okR q p) (a1 : l < 0) :
    Calls Tryd.prog 16 #[.agg #[.int .i64 q, .int .i64 p, .int .i64 nq, .int .i64 np, .bool d, .int .i64 l, .int .i64 s, .int .i64 y]] w fun e w' => e = .returned (.int .i64 270) ∧ Below w.heap.size w w' := by
  have z1 : (nq == 0) = false := by have := g.1; simp; omega
  have k1 : (nq == q) = false := by simpa using k
  clear k
  have HR := Lib.hid g
  clear g
  obtain ⟨n1, n2, n3⟩ := id h
  have HV := Lib.hid h
  clear h
  go_enter Tryd.func16, Tryd.ntmps16
  go_wp2_with fail
  refine (rvalid_ok nq np _ HR.out).mono ?_
  rintro e w1 ⟨rfl, hb1⟩
  obtain ⟨hc1, hf1⟩ := bcell hb1
  have hz1 : w.heap.size < w1.heap.size := by have := hb1.size; simp at this; omega
  go_wp2_with fail
  refine (rvalid_ok q p _ HV.out).mono ?_
  rintro e w2 ⟨rfl, hb2⟩
  obtain ⟨hc2, hf2⟩ := bcell hb2
  go_wp2_with fail
  go_ret
  exact ⟨rfl, bnext (bnext ((Below.refl _ _).alloc (Nat.le_refl _) _) hb1) hb2⟩

set_option maxHeartbeats 1000000 in
theorem rv_okA_lq (q p nq np : Int) (d : Bool) (l s y : Int) (w : World) (g : okR nq np) (k : ¬ nq = q) (h :  okR q p) (a1 : 0 ≤ l) (a2 : q < l) :
    Calls Tryd.prog 16 #[.agg #[.int .i64 q, .int .i64 p, .int .i64 nq, .int .i64 np, .bool d, .int .i64 l, .int .i64 s, .int .i64 y]] w fun e w' => e = .returned (.int .i64 270) ∧ Below w.heap.size w w' := by
  have z1 : (nq == 0) = false := by have := g.1; simp; omega
  have k1 : (nq == q) = false := by simpa using k
  clear k
  have HR := Lib.hid g
  clear g
  obtain ⟨n1, n2, n3⟩ := id h
  have HV := Lib.hid h
  clear h
  go_enter Tryd.func16, Tryd.ntmps16
  go_wp2_with fail
  refine (rvalid_ok nq np _ HR.out).mono ?_
  rintro e w1 ⟨rfl, hb1⟩
  obtain ⟨hc1, hf1⟩ := bcell hb1
  have hz1 : w.heap.size < w1.heap.size := by have := hb1.size; simp at this; omega
  go_wp2_with fail
  refine (rvalid_ok q p _ HV.out).mono ?_
  rintro e w2 ⟨rfl, hb2⟩
  obtain ⟨hc2, hf2⟩ := bcell hb2
  go_wp2_with fail
  go_ret
  exact ⟨rfl, bnext (bnext ((Below.refl _ _).alloc (Nat.le_refl _) _) hb1) hb2⟩

set_option maxHeartbeats 1000000 in
theorem rv_okA_s0 (q p nq np : Int) (d : Bool) (l s y : Int) (w : World) (g : okR nq np) (k : ¬ nq = q) (h :  okR q p) (a1 : 0 ≤ l) (a2 : l ≤ q) (a3 : s < 0) :
    Calls Tryd.prog 16 #[.agg #[.int .i64 q, .int .i64 p, .int .i64 nq, .int .i64 np, .bool d, .int .i64 l, .int .i64 s, .int .i64 y]] w fun e w' => e = .returned (.int .i64 270) ∧ Below w.heap.size w w' := by
  have z1 : (nq == 0) = false := by have := g.1; simp; omega
  have k1 : (nq == q) = false := by simpa using k
  clear k
  have HR := Lib.hid g
  clear g
  obtain ⟨n1, n2, n3⟩ := id h
  have HV := Lib.hid h
  clear h
  go_enter Tryd.func16, Tryd.ntmps16
  go_wp2_with fail
  refine (rvalid_ok nq np _ HR.out).mono ?_
  rintro e w1 ⟨rfl, hb1⟩
  obtain ⟨hc1, hf1⟩ := bcell hb1
  have hz1 : w.heap.size < w1.heap.size := by have := hb1.size; simp at this; omega
  go_wp2_with fail
  refine (rvalid_ok q p _ HV.out).mono ?_
  rintro e w2 ⟨rfl, hb2⟩
  obtain ⟨hc2, hf2⟩ := bcell hb2
  go_wp2_with fail
  go_ret
  exact ⟨rfl, bnext (bnext ((Below.refl _ _).alloc (Nat.le_refl _) _) hb1) hb2⟩

set_option maxHeartbeats 1000000 in
theorem rv_okA_s1 (q p nq np : Int) (d : Bool) (l s y : Int) (w : World) (g : okR nq np) (k : ¬ nq = q) (h :  okR q p) (a1 : 0 ≤ l) (a2 : l ≤ q) (a3 : 0 ≤ s) (a4 : 1073741824 < s) :
    Calls Tryd.prog 16 #[.agg #[.int .i64 q, .int .i64 p, .int .i64 nq, .int .i64 np, .bool d, .int .i64 l, .int .i64 s, .int .i64 y]] w fun e w' => e = .returned (.int .i64 270) ∧ Below w.heap.size w w' := by
  have z1 : (nq == 0) = false := by have := g.1; simp; omega
  have k1 : (nq == q) = false := by simpa using k
  clear k
  have HR := Lib.hid g
  clear g
  obtain ⟨n1, n2, n3⟩ := id h
  have HV := Lib.hid h
  clear h
  go_enter Tryd.func16, Tryd.ntmps16
  go_wp2_with fail
  refine (rvalid_ok nq np _ HR.out).mono ?_
  rintro e w1 ⟨rfl, hb1⟩
  obtain ⟨hc1, hf1⟩ := bcell hb1
  have hz1 : w.heap.size < w1.heap.size := by have := hb1.size; simp at this; omega
  go_wp2_with fail
  refine (rvalid_ok q p _ HV.out).mono ?_
  rintro e w2 ⟨rfl, hb2⟩
  obtain ⟨hc2, hf2⟩ := bcell hb2
  go_wp2_with fail
  go_ret
  exact ⟨rfl, bnext (bnext ((Below.refl _ _).alloc (Nat.le_refl _) _) hb1) hb2⟩

set_option maxHeartbeats 1000000 in
theorem rv_okA_y (q p nq np : Int) (d : Bool) (l s y : Int) (w : World) (g : okR nq np) (k : ¬ nq = q) (h :  okR q p) (a1 : 0 ≤ l) (a2 : l ≤ q) (a3 : 0 ≤ s) (a4 : s ≤ 1073741824) (a5 : ¬ y = s + p) :
    Calls Tryd.prog 16 #[.agg #[.int .i64 q, .int .i64 p, .int .i64 nq, .int .i64 np, .bool d, .int .i64 l, .int .i64 s, .int .i64 y]] w fun e w' => e = .returned (.int .i64 270) ∧ Below w.heap.size w w' := by
  have z1 : (nq == 0) = false := by have := g.1; simp; omega
  have k1 : (nq == q) = false := by simpa using k
  clear k
  have HR := Lib.hid g
  clear g
  obtain ⟨n1, n2, n3⟩ := id h
  have a6 : (y == s + p) = false := by simpa using a5
  have a7 : (y != s + p) = true := by simpa using a5
  clear a5
  have HV := Lib.hid h
  clear h
  go_enter Tryd.func16, Tryd.ntmps16
  go_wp2_with fail
  refine (rvalid_ok nq np _ HR.out).mono ?_
  rintro e w1 ⟨rfl, hb1⟩
  obtain ⟨hc1, hf1⟩ := bcell hb1
  have hz1 : w.heap.size < w1.heap.size := by have := hb1.size; simp at this; omega
  go_wp2_with fail
  refine (rvalid_ok q p _ HV.out).mono ?_
  rintro e w2 ⟨rfl, hb2⟩
  obtain ⟨hc2, hf2⟩ := bcell hb2
  go_wp2_with fail
  go_ret
  exact ⟨rfl, bnext (bnext ((Below.refl _ _).alloc (Nat.le_refl _) _) hb1) hb2⟩

set_option maxHeartbeats 1000000 in
theorem rv_okB_ok (q p np : Int) (d : Bool) (l s y : Int) (w : World) (g : okR q np) (k : ¬ np = p) (h :  okR q p) (a1 : 0 ≤ l) (a2 : l ≤ q) (a3 : 0 ≤ s) (a4 : s ≤ 1073741824) (a5 : y = s + p) :
    Calls Tryd.prog 16 #[.agg #[.int .i64 q, .int .i64 p, .int .i64 q, .int .i64 np, .bool d, .int .i64 l, .int .i64 s, .int .i64 y]] w fun e w' => e = .returned (.int .i64 0) ∧ Below w.heap.size w w' := by
  have z1 : (q == 0) = false := by have := g.1; simp; omega
  have k1 : (np == p) = false := by simpa using k
  clear k
  have HR := Lib.hid g
  clear g
  obtain ⟨n1, n2, n3⟩ := id h
  subst a5
  have HV := Lib.hid h
  clear h
  go_enter Tryd.func16, Tryd.ntmps16
  go_wp2_with fail
  refine (rvalid_ok q np _ HR.out).mono ?_
  rintro e w1 ⟨rfl, hb1⟩
  obtain ⟨hc1, hf1⟩ := bcell hb1
  have hz1 : w.heap.size < w1.heap.size := by have := hb1.size; simp at this; omega
  go_wp2_with fail
  refine (rvalid_ok q p _ HV.out).mono ?_
  rintro e w2 ⟨rfl, hb2⟩
  obtain ⟨hc2, hf2⟩ := bcell hb2
  go_wp2_with fail
  go_ret
  exact ⟨rfl, bnext (bnext ((Below.refl _ _).alloc (Nat.le_refl _) _) hb1) hb2⟩

set_option maxHeartbeats 1000000 in
theorem rv_okB_now (q p np : Int) (d : Bool) (l s y : Int) (w : World) (g : okR q np) (k : ¬ np = p) (h : ¬ okR q p) :
    Calls Tryd.prog 16 #[.agg #[.int .i64 q, .int .i64 p, .int .i64 q, .int .i64 np, .bool d, .int .i64 l, .int .i64 s, .int .i64 y]] w fun e w' => e = .returned (.int .i64 270) ∧ Below w.heap.size w w' := by
  have z1 : (q == 0) = false := by have := g.1; simp; omega
  have k1 : (np == p) = false := by simpa using k
  clear k
  have HR := Lib.hid g
  clear g
  have HV := Lib.hid h
  clear h
  go_enter Tryd.func16, Tryd.ntmps16
  go_wp2_with fail
  refine (rvalid_ok q np _ HR.out).mono ?_
  rintro e w1 ⟨rfl, hb1⟩
  obtain ⟨hc1, hf1⟩ := bcell hb1
  have hz1 : w.heap.size < w1.heap.size := by have := hb1.size; simp at this; omega
  go_wp2_with fail
  refine (rvalid_no q p _ HV.out).mono ?_
  rintro e w2 ⟨rfl, hb2⟩
  obtain ⟨hc2, hf2⟩ := bcell hb2
  go_wp2_with fail
  go_ret
  exact ⟨rfl, bnext (bnext ((Below.refl _ _).alloc (Nat.le_refl _) _) hb1) hb2⟩

set_option maxHeartbeats 1000000 in
theorem rv_okB_l0 (q p np : Int) (d : Bool) (l s y : Int) (w : World) (g : okR q np) (k : ¬ np = p) (h :  okR q p) (a1 : l < 0) :
    Calls Tryd.prog 16 #[.agg #[.int .i64 q, .int .i64 p, .int .i64 q, .int .i64 np, .bool d, .int .i64 l, .int .i64 s, .int .i64 y]] w fun e w' => e = .returned (.int .i64 270) ∧ Below w.heap.size w w' := by
  have z1 : (q == 0) = false := by have := g.1; simp; omega
  have k1 : (np == p) = false := by simpa using k
  clear k
  have HR := Lib.hid g
  clear g
  obtain ⟨n1, n2, n3⟩ := id h
  have HV := Lib.hid h
  clear h
  go_enter Tryd.func16, Tryd.ntmps16
  go_wp2_with fail
  refine (rvalid_ok q np _ HR.out).mono ?_
  rintro e w1 ⟨rfl, hb1⟩
  obtain ⟨hc1, hf1⟩ := bcell hb1
  have hz1 : w.heap.size < w1.heap.size := by have := hb1.size; simp at this; omega
  go_wp2_with fail
  refine (rvalid_ok q p _ HV.out).mono ?_
  rintro e w2 ⟨rfl, hb2⟩
  obtain ⟨hc2, hf2⟩ := bcell hb2
  go_wp2_with fail
  go_ret
  exact ⟨rfl, bnext (bnext ((Below.refl _ _).alloc (Nat.le_refl _) _) hb1) hb2⟩

set_option maxHeartbeats 1000000 in
theorem rv_okB_lq (q p np : Int) (d : Bool) (l s y : Int) (w : World) (g : okR q np) (k : ¬ np = p) (h :  okR q p) (a1 : 0 ≤ l) (a2 : q < l) :
    Calls Tryd.prog 16 #[.agg #[.int .i64 q, .int .i64 p, .int .i64 q, .int .i64 np, .bool d, .int .i64 l, .int .i64 s, .int .i64 y]] w fun e w' => e = .returned (.int .i64 270) ∧ Below w.heap.size w w' := by
  have z1 : (q == 0) = false := by have := g.1; simp; omega
  have k1 : (np == p) = false := by simpa using k
  clear k
  have HR := Lib.hid g
  clear g
  obtain ⟨n1, n2, n3⟩ := id h
  have HV := Lib.hid h
  clear h
  go_enter Tryd.func16, Tryd.ntmps16
  go_wp2_with fail
  refine (rvalid_ok q np _ HR.out).mono ?_
  rintro e w1 ⟨rfl, hb1⟩
  obtain ⟨hc1, hf1⟩ := bcell hb1
  have hz1 : w.heap.size < w1.heap.size := by have := hb1.size; simp at this; omega
  go_wp2_with fail
  refine (rvalid_ok q p _ HV.out).mono ?_
  rintro e w2 ⟨rfl, hb2⟩
  obtain ⟨hc2, hf2⟩ := bcell hb2
  go_wp2_with fail
  go_ret
  exact ⟨rfl, bnext (bnext ((Below.refl _ _).alloc (Nat.le_refl _) _) hb1) hb2⟩

set_option maxHeartbeats 1000000 in
theorem rv_okB_s0 (q p np : Int) (d : Bool) (l s y : Int) (w : World) (g : okR q np) (k : ¬ np = p) (h :  okR q p) (a1 : 0 ≤ l) (a2 : l ≤ q) (a3 : s < 0) :
    Calls Tryd.prog 16 #[.agg #[.int .i64 q, .int .i64 p, .int .i64 q, .int .i64 np, .bool d, .int .i64 l, .int .i64 s, .int .i64 y]] w fun e w' => e = .returned (.int .i64 270) ∧ Below w.heap.size w w' := by
  have z1 : (q == 0) = false := by have := g.1; simp; omega
  have k1 : (np == p) = false := by simpa using k
  clear k
  have HR := Lib.hid g
  clear g
  obtain ⟨n1, n2, n3⟩ := id h
  have HV := Lib.hid h
  clear h
  go_enter Tryd.func16, Tryd.ntmps16
  go_wp2_with fail
  refine (rvalid_ok q np _ HR.out).mono ?_
  rintro e w1 ⟨rfl, hb1⟩
  obtain ⟨hc1, hf1⟩ := bcell hb1
  have hz1 : w.heap.size < w1.heap.size := by have := hb1.size; simp at this; omega
  go_wp2_with fail
  refine (rvalid_ok q p _ HV.out).mono ?_
  rintro e w2 ⟨rfl, hb2⟩
  obtain ⟨hc2, hf2⟩ := bcell hb2
  go_wp2_with fail
  go_ret
  exact ⟨rfl, bnext (bnext ((Below.refl _ _).alloc (Nat.le_refl _) _) hb1) hb2⟩

set_option maxHeartbeats 1000000 in
theorem rv_okB_s1 (q p np : Int) (d : Bool) (l s y : Int) (w : World) (g : okR q np) (k : ¬ np = p) (h :  okR q p) (a1 : 0 ≤ l) (a2 : l ≤ q) (a3 : 0 ≤ s) (a4 : 1073741824 < s) :
    Calls Tryd.prog 16 #[.agg #[.int .i64 q, .int .i64 p, .int .i64 q, .int .i64 np, .bool d, .int .i64 l, .int .i64 s, .int .i64 y]] w fun e w' => e = .returned (.int .i64 270) ∧ Below w.heap.size w w' := by
  have z1 : (q == 0) = false := by have := g.1; simp; omega
  have k1 : (np == p) = false := by simpa using k
  clear k
  have HR := Lib.hid g
  clear g
  obtain ⟨n1, n2, n3⟩ := id h
  have HV := Lib.hid h
  clear h
  go_enter Tryd.func16, Tryd.ntmps16
  go_wp2_with fail
  refine (rvalid_ok q np _ HR.out).mono ?_
  rintro e w1 ⟨rfl, hb1⟩
  obtain ⟨hc1, hf1⟩ := bcell hb1
  have hz1 : w.heap.size < w1.heap.size := by have := hb1.size; simp at this; omega
  go_wp2_with fail
  refine (rvalid_ok q p _ HV.out).mono ?_
  rintro e w2 ⟨rfl, hb2⟩
  obtain ⟨hc2, hf2⟩ := bcell hb2
  go_wp2_with fail
  go_ret
  exact ⟨rfl, bnext (bnext ((Below.refl _ _).alloc (Nat.le_refl _) _) hb1) hb2⟩

set_option maxHeartbeats 1000000 in
theorem rv_okB_y (q p np : Int) (d : Bool) (l s y : Int) (w : World) (g : okR q np) (k : ¬ np = p) (h :  okR q p) (a1 : 0 ≤ l) (a2 : l ≤ q) (a3 : 0 ≤ s) (a4 : s ≤ 1073741824) (a5 : ¬ y = s + p) :
    Calls Tryd.prog 16 #[.agg #[.int .i64 q, .int .i64 p, .int .i64 q, .int .i64 np, .bool d, .int .i64 l, .int .i64 s, .int .i64 y]] w fun e w' => e = .returned (.int .i64 270) ∧ Below w.heap.size w w' := by
  have z1 : (q == 0) = false := by have := g.1; simp; omega
  have k1 : (np == p) = false := by simpa using k
  clear k
  have HR := Lib.hid g
  clear g
  obtain ⟨n1, n2, n3⟩ := id h
  have a6 : (y == s + p) = false := by simpa using a5
  have a7 : (y != s + p) = true := by simpa using a5
  clear a5
  have HV := Lib.hid h
  clear h
  go_enter Tryd.func16, Tryd.ntmps16
  go_wp2_with fail
  refine (rvalid_ok q np _ HR.out).mono ?_
  rintro e w1 ⟨rfl, hb1⟩
  obtain ⟨hc1, hf1⟩ := bcell hb1
  have hz1 : w.heap.size < w1.heap.size := by have := hb1.size; simp at this; omega
  go_wp2_with fail
  refine (rvalid_ok q p _ HV.out).mono ?_
  rintro e w2 ⟨rfl, hb2⟩
  obtain ⟨hc2, hf2⟩ := bcell hb2
  go_wp2_with fail
  go_ret
  exact ⟨rfl, bnext (bnext ((Below.refl _ _).alloc (Nat.le_refl _) _) hb1) hb2⟩

set_option maxHeartbeats 1000000 in
theorem rv_same (q p : Int) (d : Bool) (l s y : Int) (w : World) (g : okR q p) (h :  okR q p) :
    Calls Tryd.prog 16 #[.agg #[.int .i64 q, .int .i64 p, .int .i64 q, .int .i64 p, .bool d, .int .i64 l, .int .i64 s, .int .i64 y]] w fun e w' => e = .returned (.int .i64 270) ∧ Below w.heap.size w w' := by
  have z1 : (q == 0) = false := by have := g.1; simp; omega
  have HR := Lib.hid g
  clear g
  obtain ⟨n1, n2, n3⟩ := id h
  have HV := Lib.hid h
  clear h
  go_enter Tryd.func16, Tryd.ntmps16
  go_wp2_with fail
  refine (rvalid_ok q p _ HR.out).mono ?_
  rintro e w1 ⟨rfl, hb1⟩
  obtain ⟨hc1, hf1⟩ := bcell hb1
  have hz1 : w.heap.size < w1.heap.size := by have := hb1.size; simp at this; omega
  go_wp2_with fail
  refine (rvalid_ok q p _ HV.out).mono ?_
  rintro e w2 ⟨rfl, hb2⟩
  obtain ⟨hc2, hf2⟩ := bcell hb2
  go_wp2_with fail
  go_ret
  exact ⟨rfl, bnext (bnext ((Below.refl _ _).alloc (Nat.le_refl _) _) hb1) hb2⟩

set_option maxHeartbeats 1000000 in
theorem rv_badA_now (q p nq np : Int) (d : Bool) (l s y : Int) (w : World) (g : ¬ okR nq np) (k : ¬ nq = 0) (h : ¬ okR q p) :
    Calls Tryd.prog 16 #[.agg #[.int .i64 q, .int .i64 p, .int .i64 nq, .int .i64 np, .bool d, .int .i64 l, .int .i64 s, .int .i64 y]] w fun e w' => e = .returned (.int .i64 270) ∧ Below w.heap.size w w' := by
  have k1 : (nq == 0) = false := by simpa using k
  clear k
  have HR := Lib.hid g
  clear g
  have HV := Lib.hid h
  clear h
  go_enter Tryd.func16, Tryd.ntmps16
  go_wp2_with fail
  refine (rvalid_no nq np _ HR.out).mono ?_
  rintro e w1 ⟨rfl, hb1⟩
  obtain ⟨hc1, hf1⟩ := bcell hb1
  have hz1 : w.heap.size < w1.heap.size := by have := hb1.size; simp at this; omega
  go_wp2_with fail
  refine (rvalid_no q p _ HV.out).mono ?_
  rintro e w2 ⟨rfl, hb2⟩
  obtain ⟨hc2, hf2⟩ := bcell hb2
  go_wp2_with fail
  go_ret
  exact ⟨rfl, bnext (bnext ((Below.refl _ _).alloc (Nat.le_refl _) _) hb1) hb2⟩

set_option maxHeartbeats 1000000 in
theorem rv_badA (q p nq np : Int) (d : Bool) (l s y : Int) (w : World) (g : ¬ okR nq np) (k : ¬ nq = 0) (h :  okR q p) :
    Calls Tryd.prog 16 #[.agg #[.int .i64 q, .int .i64 p, .int .i64 nq, .int .i64 np, .bool d, .int .i64 l, .int .i64 s, .int .i64 y]] w fun e w' => e = .returned (.int .i64 270) ∧ Below w.heap.size w w' := by
  have k1 : (nq == 0) = false := by simpa using k
  clear k
  have HR := Lib.hid g
  clear g
  obtain ⟨n1, n2, n3⟩ := id h
  have HV := Lib.hid h
  clear h
  go_enter Tryd.func16, Tryd.ntmps16
  go_wp2_with fail
  refine (rvalid_no nq np _ HR.out).mono ?_
  rintro e w1 ⟨rfl, hb1⟩
  obtain ⟨hc1, hf1⟩ := bcell hb1
  have hz1 : w.heap.size < w1.heap.size := by have := hb1.size; simp at this; omega
  go_wp2_with fail
  refine (rvalid_ok q p _ HV.out).mono ?_
  rintro e w2 ⟨rfl, hb2⟩
  obtain ⟨hc2, hf2⟩ := bcell hb2
  go_wp2_with fail
  go_ret
  exact ⟨rfl, bnext (bnext ((Below.refl _ _).alloc (Nat.le_refl _) _) hb1) hb2⟩

set_option maxHeartbeats 1000000 in
theorem rv_badB_now (q p np : Int) (d : Bool) (l s y : Int) (w : World) (g : ¬ okR 0 np) (k : ¬ np = 0) (h : ¬ okR q p) :
    Calls Tryd.prog 16 #[.agg #[.int .i64 q, .int .i64 p, .int .i64 0, .int .i64 np, .bool d, .int .i64 l, .int .i64 s, .int .i64 y]] w fun e w' => e = .returned (.int .i64 270) ∧ Below w.heap.size w w' := by
  have k1 : (np == 0) = false := by simpa using k
  clear k
  have HR := Lib.hid g
  clear g
  have HV := Lib.hid h
  clear h
  go_enter Tryd.func16, Tryd.ntmps16
  go_wp2_with fail
  refine (rvalid_no 0 np _ HR.out).mono ?_
  rintro e w1 ⟨rfl, hb1⟩
  obtain ⟨hc1, hf1⟩ := bcell hb1
  have hz1 : w.heap.size < w1.heap.size := by have := hb1.size; simp at this; omega
  go_wp2_with fail
  refine (rvalid_no q p _ HV.out).mono ?_
  rintro e w2 ⟨rfl, hb2⟩
  obtain ⟨hc2, hf2⟩ := bcell hb2
  go_wp2_with fail
  go_ret
  exact ⟨rfl, bnext (bnext ((Below.refl _ _).alloc (Nat.le_refl _) _) hb1) hb2⟩

set_option maxHeartbeats 1000000 in
theorem rv_badB (q p np : Int) (d : Bool) (l s y : Int) (w : World) (g : ¬ okR 0 np) (k : ¬ np = 0) (h :  okR q p) :
    Calls Tryd.prog 16 #[.agg #[.int .i64 q, .int .i64 p, .int .i64 0, .int .i64 np, .bool d, .int .i64 l, .int .i64 s, .int .i64 y]] w fun e w' => e = .returned (.int .i64 270) ∧ Below w.heap.size w w' := by
  have k1 : (np == 0) = false := by simpa using k
  clear k
  have HR := Lib.hid g
  clear g
  obtain ⟨n1, n2, n3⟩ := id h
  have HV := Lib.hid h
  clear h
  go_enter Tryd.func16, Tryd.ntmps16
  go_wp2_with fail
  refine (rvalid_no 0 np _ HR.out).mono ?_
  rintro e w1 ⟨rfl, hb1⟩
  obtain ⟨hc1, hf1⟩ := bcell hb1
  have hz1 : w.heap.size < w1.heap.size := by have := hb1.size; simp at this; omega
  go_wp2_with fail
  refine (rvalid_ok q p _ HV.out).mono ?_
  rintro e w2 ⟨rfl, hb2⟩
  obtain ⟨hc2, hf2⟩ := bcell hb2
  go_wp2_with fail
  go_ret
  exact ⟨rfl, bnext (bnext ((Below.refl _ _).alloc (Nat.le_refl _) _) hb1) hb2⟩

end Go.Proofs.YtbkbmpnhjmcenaaDoor
