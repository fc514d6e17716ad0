/- The program's cmp.Compare and order of two entries of a heap, and that they order; the world but for new blocks stays; no condition but those that each row names. -/
import Derived.Test.YtknhjbfhkfngeaaEHeap
import Derived.RegionTactic
import Derived.IntWalk
import Derived.BigQuiet
namespace Go.Proofs.Ytknhjbfhkfngeaa
open Go.RowKit Hp

abbrev HT_I : TypeId := 49
abbrev NT_I : TypeId := 51
/-- How a key stands. -/
abbrev enc_I (x : Int) : Value := (.int .i64 x)
/-- Two numbers compared. -/
def kc_I (x y : Int) : Int := if x < y then -1 else if y < x then 1 else 0
/-- A number below 0, 0, one above it. -/
structure Cmp {α : Type} (kc : α → α → Int) : Prop where
  eq : ∀ {x y}, kc x y = 0 → x = y
  refl : ∀ x, kc x x = 0
  flip : ∀ {x y}, 0 < kc x y ↔ kc y x < 0
  trans : ∀ {x y z}, kc x y < 0 → kc y z < 0 → kc x z < 0
theorem cmp_I : Cmp kc_I where
  eq h := by unfold kc_I at h; split at h <;> (try split at h) <;> omega
  refl x := by simp [kc_I]
  flip := by intro x y; unfold kc_I; constructor <;> intro h <;> (repeat' split at h) <;> (repeat' split) <;> omega
  trans := by intro x y z h1 h2; unfold kc_I at *; (repeat' split at h1) <;> (repeat' split at h2) <;> (repeat' split) <;> omega
/-- Two entries compared. -/
def cf {α : Type} (kc : α → α → Int) (x y : Int × α) : Int := if kc x.2 y.2 = 0 then kc_I x.1 y.1 else kc x.2 y.2
def ahB {α : Type} (kc : α → α → Int) (x y : Int × α) : Bool := decide (cf kc x y < 0)
theorem Cmp.cf {α : Type} {kc : α → α → Int} (C : Cmp kc) : Cmp (cf kc) where
  eq := by
    rintro ⟨i, k⟩ ⟨j, l⟩ h
    unfold Go.Proofs.Ytknhjbfhkfngeaa.cf at h
    simp only at h
    by_cases h0 : kc k l = 0
    · rw [if_pos h0] at h; rw [C.eq h0, cmp_I.eq h]
    · rw [if_neg h0] at h; exact absurd h h0
  refl x := by simp [Go.Proofs.Ytknhjbfhkfngeaa.cf, C.refl, cmp_I.refl]
  flip := by
    rintro ⟨i, k⟩ ⟨j, l⟩
    unfold Go.Proofs.Ytknhjbfhkfngeaa.cf
    simp only
    by_cases h0 : kc k l = 0
    · have := C.eq h0; subst this; rw [C.refl, if_pos rfl, if_pos rfl]; exact cmp_I.flip
    · have h1 : kc l k ≠ 0 := fun e => h0 (by have := C.eq e; subst this; exact C.refl _)
      rw [if_neg h0, if_neg h1]; exact C.flip
  trans := by
    rintro ⟨i, k⟩ ⟨j, l⟩ ⟨m, n⟩ h1 h2
    unfold Go.Proofs.Ytknhjbfhkfngeaa.cf at *
    simp only at *
    by_cases e1 : kc k l = 0
    · have := C.eq e1; subst this
      rw [C.refl, if_pos rfl] at h1
      by_cases e2 : kc k n = 0
      · rw [if_pos e2] at h2 ⊢; exact cmp_I.trans h1 h2
      · rw [if_neg e2] at h2 ⊢; exact h2
    · rw [if_neg e1] at h1
      by_cases e2 : kc l n = 0
      · have := C.eq e2; subst this
        rw [if_neg e1]; exact h1
      · rw [if_neg e2] at h2
        have h3 := C.trans h1 h2
        rw [if_neg (by omega)]; exact h3
theorem Cmp.ord {α : Type} {kc : α → α → Int} (C : Cmp kc) : Hp.Ord (ahB kc) where
  irr x := by simp [ahB, C.cf.refl]
  trans h1 h2 := by simp only [ahB, decide_eq_true_eq] at *; exact C.cf.trans h1 h2
  tot {x y} h1 h2 := by
    simp only [ahB, decide_eq_false_iff_not] at *
    refine C.cf.eq ?_
    have := C.cf.flip (x := x) (y := y)
    omega
theorem ord_I : Hp.Ord (ahB kc_I) := cmp_I.ord

set_option maxHeartbeats 400000 in
theorem isnan_I (x : Int) (w : World) :
    Calls Try.prog 30 #[(.int .i64 x)] w fun e w' => e = .returned (.bool false) ∧ w = w' := by
  go_enter Try.func30, Try.ntmps30
  go_wp2
  go_ret
  exact ⟨by simp, rfl⟩
set_option maxHeartbeats 400000 in
theorem compare_I (x y : Int) (w : World) :
    Calls Try.prog 29 #[(.int .i64 x), (.int .i64 y)] w fun e w' => e = .returned (.int .i64 (kc_I x y)) ∧ w = w' := by
  have N := fun (x : Int) (w : World) => Lib.hid (isnan_I x w)
  go_enter Try.func29, Try.ntmps29
  go_wp2_with fail
  refine (N _ _).out.mono ?_
  rintro e w1 ⟨rfl, rfl⟩
  go_wp2_with fail
  refine (N _ _).out.mono ?_
  rintro e w1 ⟨rfl, rfl⟩
  go_wp2_with fail
  all_goals (go_ret; refine ⟨ret_int ?_, rfl⟩; unfold kc_I; (repeat' split) <;> first | rfl | (exfalso; omega))
set_option maxHeartbeats 400000 in
/-- order: two blocks are laid. -/
theorem order_I (x y : Int × Int) (w : World) :
    Calls Try.prog 28 #[.agg #[.int .i64 x.1, (.int .i64 x.2)], .agg #[.int .i64 y.1, (.int .i64 y.2)]] w fun e w' => e = .returned (.int .i64 (cf kc_I x y)) ∧
      w' = (w.alloc (.cells #[.int .i64 x.1, (.int .i64 x.2)] NT_I)).alloc (.cells #[.int .i64 y.1, (.int .i64 y.2)] NT_I) := by
  obtain ⟨i, k⟩ := x
  obtain ⟨j, l⟩ := y
  simp only
  have HC := fun (w : World) => Lib.hid (compare_I k l w)
  have HI := fun (w : World) => Lib.hid (compare_I i j w)
  have HE := Lib.hid (show cf kc_I (i, k) (j, l) = if kc_I k l = 0 then kc_I i j else kc_I k l from rfl)
  generalize kc_I k l = c at HC HE
  by_cases h0 : c = 0
  · subst h0
    have z : ((0 : Int) != 0) = false := rfl
    go_enter Try.func28, Try.ntmps28
    go_wp2_with fail
    refine (HC _).out.mono ?_
    rintro e w1 ⟨rfl, rfl⟩
    go_wp2_with fail
    refine (HI _).out.mono ?_
    rintro e w1 ⟨rfl, rfl⟩
    go_wp2_with fail
    go_ret
    exact ⟨ret_int (by rw [HE.out]; simp), rfl⟩
  · have z : (c != 0) = true := by simpa using h0
    have H0 := Lib.hid h0
    clear h0
    go_enter Try.func28, Try.ntmps28
    go_wp2_with fail
    refine (HC _).out.mono ?_
    rintro e w1 ⟨rfl, rfl⟩
    go_wp2_with fail
    go_ret
    exact ⟨ret_int (by rw [HE.out, if_neg H0.out]), rfl⟩
end Go.Proofs.Ytknhjbfhkfngeaa
