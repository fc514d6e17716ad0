/- The program's package handle as far as the tables of slots call it: what may be, Make, Slot; the library's bits.Mul of 1; no condition but those that each row names. -/
import Derived.Test.YtlcdbblbepndoaaDoorSMem
import Derived.Test.YtlcdbblbepndoaaDoorProg
import Derived.Test.YtlcdbblbepndoaaDoorHMath
import Derived.WalkSpells
import Derived.WalkLawsBesides
namespace Go.Proofs.YtlcdbblbepndoaaDoor
open Go.RowKit

theorem ret_handle {a x : Int} {v : Value} (h1 : a = x) : Ending.returned (.tuple #[.int .i64 a, v]) = .returned (.tuple #[.int .i64 x, v]) := by rw [h1]
theorem ret_parts {a b c x y z : Int} (h1 : a = x) (h2 : b = y) (h3 : c = z) : Ending.returned (.tuple #[.int .i64 a, .int .i64 b, .int .i64 c]) = .returned (.tuple #[.int .i64 x, .int .i64 y, .int .i64 z]) := by rw [h1, h2, h3]

theorem maybe_ok (k s g : Int) (w : World) (h : okP k s g) :
    Calls Tryd.prog 59 #[.int .i64 k, .int .i64 s, .int .i64 g] w fun e w' => e = .returned (.bool true) ∧ w = w' := by
  obtain ⟨h1, h2, h3, h4, h5, h6⟩ := h
  go_enter Tryd.func59, Tryd.ntmps59
  go_wp2
  go_ret
  exact ⟨rfl, rfl⟩

theorem maybe_no (k s g : Int) (w : World) (h : ¬ okP k s g) :
    Calls Tryd.prog 59 #[.int .i64 k, .int .i64 s, .int .i64 g] w fun e w' => e = .returned (.bool false) ∧ w = w' := by
  by_cases h1 : 1 ≤ k
  · by_cases h2 : k ≤ 3
    · by_cases h3 : 0 ≤ s
      · by_cases h4 : s ≤ 65535
        · by_cases h5 : 1 ≤ g
          · have h6 : 1023 < g := by unfold okP at h; omega
            clear h
            go_enter Tryd.func59, Tryd.ntmps59
            go_wp2
            go_ret
            exact ⟨ret_bool (decide_eq_false (by omega)), rfl⟩
          · have h6 : g < 1 := by omega
            clear h h5
            go_enter Tryd.func59, Tryd.ntmps59
            go_wp2
            go_ret
            exact ⟨rfl, rfl⟩
        · have h6 : 65535 < s := by omega
          clear h h4
          go_enter Tryd.func59, Tryd.ntmps59
          go_wp2
          go_ret
          exact ⟨rfl, rfl⟩
      · have h6 : s < 0 := by omega
        clear h h3
        go_enter Tryd.func59, Tryd.ntmps59
        go_wp2
        go_ret
        exact ⟨rfl, rfl⟩
    · have h6 : 3 < k := by omega
      clear h h2
      go_enter Tryd.func59, Tryd.ntmps59
      go_wp2
      go_ret
      exact ⟨rfl, rfl⟩
  · have h6 : k < 1 := by omega
    clear h h1
    go_enter Tryd.func59, Tryd.ntmps59
    go_wp2
    go_ret
    exact ⟨rfl, rfl⟩

theorem split_any (h : Int) (w : World) :
    Calls Tryd.prog 71 #[.int .i64 h] w fun e w' => e = .returned (.tuple #[.int .i64 (kOf h), .int .i64 (sOf h), .int .i64 (gOf h)]) ∧ w = w' := by
  go_enter Tryd.func71, Tryd.ntmps71
  go_wp2
  go_ret3
  exact ⟨ret_parts rfl (i64_mask _) (i64_mask _), rfl⟩

theorem slot_ok (h : Int) (w : World) (k : okH h) :
    Calls Tryd.prog 66 #[.int .i64 h] w fun e w' => e = .returned (.int .i64 (sOf h)) ∧ w = w' := by
  go_enter Tryd.func66, Tryd.ntmps66
  go_wp2_with fail
  refine (split_any _ _).mono ?_
  rintro e w1 ⟨rfl, rfl⟩
  go_wp2_with fail
  refine (maybe_ok _ _ _ _ k).mono ?_
  rintro e w1 ⟨rfl, rfl⟩
  go_wp2_with fail
  go_ret
  exact ⟨rfl, rfl⟩

theorem slot_no (h : Int) (w : World) (k : ¬ okH h) :
    Calls Tryd.prog 66 #[.int .i64 h] w fun e w' => e = .returned (.int .i64 (-1)) ∧ w = w' := by
  go_enter Tryd.func66, Tryd.ntmps66
  go_wp2_with fail
  refine (split_any _ _).mono ?_
  rintro e w1 ⟨rfl, rfl⟩
  go_wp2_with fail
  refine (maybe_no _ _ _ _ k).mono ?_
  rintro e w1 ⟨rfl, rfl⟩
  go_wp2_with fail
  go_ret
  exact ⟨rfl, rfl⟩

theorem make_ok (k s g : Int) (w : World) (h : okP k s g) :
    Calls Tryd.prog 41 #[.int .i64 k, .int .i64 s, .int .i64 g] w fun e w' => e = .returned (.tuple #[.int .i64 (mkH k s g), .nilIface]) ∧ w = w' := by
  obtain ⟨h1, h2, h3, h4, h5, h6⟩ := id h
  go_enter Tryd.func41, Tryd.ntmps41
  go_wp2_with fail
  refine (maybe_ok _ _ _ _ h).mono ?_
  rintro e w1 ⟨rfl, rfl⟩
  go_wp2_with fail
  go_ret2
  exact ⟨ret_handle (by rw [or_k k s (by omega) h2 h3 h4, or_s k s g (by omega) h2 h3 h4 (by omega) h6]), rfl⟩

theorem make_no (k s g : Int) (w : World) (h : ¬ okP k s g) :
    Calls Tryd.prog 41 #[.int .i64 k, .int .i64 s, .int .i64 g] w fun e w' => e = .returned (.tuple #[.int .i64 0, .iface 68 (.int .i64 1)]) ∧ w = w' := by
  go_enter Tryd.func41, Tryd.ntmps41
  go_wp2_with fail
  refine (maybe_no _ _ _ _ h).mono ?_
  rintro e w1 ⟨rfl, rfl⟩
  go_wp2_with fail
  go_ret2
  exact ⟨rfl, rfl⟩

theorem u64_mask (n : Int) (h0 : 0 ≤ n) (h1 : n ≤ 4096) : bits .and .u64 n 4294967295 = n := by
  obtain ⟨a, rfl⟩ := Int.eq_ofNat_of_zero_le h0
  show IntKind.u64.wrap ((BitVec.ofInt 64 (a : Int) &&& BitVec.ofInt 64 4294967295).toNat : Int) = _
  have h1 : (BitVec.ofInt 64 4294967295).toNat = 2 ^ 32 - 1 := by decide
  rw [BitVec.toNat_and, h1, Nat.and_two_pow_sub_one_eq_mod, ofInt_i64n a (by omega), Nat.mod_eq_of_lt (by omega), IntKind.wrap_u64]
  omega
theorem ret_u {a b x y : Int} (h1 : a = x) (h2 : b = y) : Ending.returned (.tuple #[.int .u64 a, .int .u64 b]) = .returned (.tuple #[.int .u64 x, .int .u64 y]) := by rw [h1, h2]
theorem mul64_one (n : Int) (w : World) (h0 : 0 ≤ n) (h1 : n ≤ 4096) :
    Calls Tryd.prog 70 #[.int .u64 1, .int .u64 n] w fun e w' => e = .returned (.tuple #[.int .u64 0, .int .u64 n]) ∧ w = w' := by
  have m1 := u64_mask n h0 h1
  have m2 := u64_mask 1 (by omega) (by omega)
  have m3 := u64_mask 0 (by omega) (by omega)
  go_enter Tryd.func70, Tryd.ntmps70
  go_wp2_with fail
  go_ret2
  refine ⟨ret_u ?_ ?_, rfl⟩
  · simp only [IntKind.wrap_u64]
    have e : n / 4294967296 = 0 := by omega
    simp [e, m3]
  · rfl
theorem mul_one (n : Int) (w : World) (h0 : 0 ≤ n) (h1 : n ≤ 4096) :
    Calls Tryd.prog 60 #[.int .u64 1, .int .u64 n] w fun e w' => e = .returned (.tuple #[.int .u64 0, .int .u64 n]) ∧ w = w' := by
  go_enter Tryd.func60, Tryd.ntmps60
  go_wp2_with fail
  refine (mul64_one n _ h0 h1).mono ?_
  rintro e w1 ⟨rfl, rfl⟩
  go_wp2_with fail
  go_ret2
  exact ⟨rfl, rfl⟩
end Go.Proofs.YtlcdbblbepndoaaDoor
