/- handle.packs, handle.appendNumber, handle.number: six bytes of a number behind a slice of the call's own, the number of six bytes; no condition but those that each row names. -/
import Derived.Test.YtokplbfjpabolaaDoorHParts
import Derived.Test.YtokplbfjpabolaaDoorMath
import Derived.Deep.LoopGhost
import Derived.Maps.AppendAt
namespace Go.Proofs.YtokplbfjpabolaaDoor
open Go.RowKit

theorem Tryd.info5 : (Tryd.prog.info? 5).map (fun i => (i.zero, i.size, i.bytes)) = some (some (.int .u8 0), 1, 1) := by kernel_rfl

theorem packs_0 (w : World) : Calls Tryd.prog 39 #[.int .i64 0] w fun e w' => e = .returned (.bool true) ∧ w = w' := by
  go_enter Tryd.func39, Tryd.ntmps39
  go_wp2_with fail
  go_ret
  exact ⟨rfl, rfl⟩
theorem packs_ok (h : Int) (k : okH h) (w : World) : Calls Tryd.prog 39 #[.int .i64 h] w fun e w' => e = .returned (.bool true) ∧ w = w' := by
  have hz : (h == 0) = false := by rw [beq_eq_false_iff_ne]; exact okH_ne k
  go_enter Tryd.func39, Tryd.ntmps39
  go_wp2_with fail
  refine (valid_ok _ _ k).mono ?_
  rintro e w1 ⟨rfl, rfl⟩
  go_wp2_with fail
  go_ret
  exact ⟨rfl, rfl⟩
/-- What can be packed. -/
def pk (h : Int) : Prop := h = 0 ∨ okH h
theorem packs_yes (h : Int) (k : pk h) (w : World) : Calls Tryd.prog 39 #[.int .i64 h] w fun e w' => e = .returned (.bool true) ∧ w = w' := by
  rcases k with rfl | k
  · exact packs_0 w
  · exact packs_ok h k w
theorem packs_no (h : Int) (k : ¬ pk h) (w : World) : Calls Tryd.prog 39 #[.int .i64 h] w fun e w' => e = .returned (.bool false) ∧ w = w' := by
  have h0 : h ≠ 0 := fun e => k (.inl e)
  have kk : ¬ okH h := fun e => k (.inr e)
  have hz : (h == 0) = false := by rw [beq_eq_false_iff_ne]; exact h0
  clear k h0
  go_enter Tryd.func39, Tryd.ntmps39
  go_wp2_with fail
  refine (valid_no _ _ kk).mono ?_
  rintro e w1 ⟨rfl, rfl⟩
  go_wp2_with fail
  go_ret
  exact ⟨rfl, rfl⟩
theorem pk_bd {h : Int} (k : pk h) : 0 ≤ h ∧ h < 281474976710656 := by
  rcases k with rfl | k
  · omega
  · have := okH_bd k; omega

theorem numL_snoc (l : List UInt8) (b : UInt8) : ∀ a, numL a (l ++ [b]) = numL a l * 256 + (b.toNat : Int) := by
  induction l with
  | nil => intro a; rfl
  | cons c t ih => intro a; exact ih _
theorem numL_bd (l : List UInt8) : ∀ a : Int, 0 ≤ a → 0 ≤ numL a l ∧ numL a l < (a + 1) * (256 ^ l.length : Nat) := by
  induction l with
  | nil => intro a h; simp [numL]; omega
  | cons c t ih =>
    intro a h
    have hc : c.toNat < 256 := c.toNat_lt
    obtain ⟨h1, h2⟩ := ih (a * 256 + (c.toNat : Int)) (by omega)
    refine ⟨h1, Int.lt_of_lt_of_le h2 ?_⟩
    rw [List.length_cons, Nat.pow_succ]
    generalize (256 ^ t.length : Nat) = X
    rw [Int.natCast_mul, Int.mul_comm (X : Int), ← Int.mul_assoc]
    exact Int.mul_le_mul_of_nonneg_right (by omega) (by omega)
theorem numL_lt5 {l : List UInt8} (h : l.length ≤ 5) : 0 ≤ numL 0 l ∧ numL 0 l < 1099511627776 := by
  obtain ⟨h1, h2⟩ := numL_bd l 0 (by omega)
  refine ⟨h1, Int.lt_of_lt_of_le h2 ?_⟩
  have : 256 ^ l.length ≤ 256 ^ 5 := Nat.pow_le_pow_right (by omega) h
  have e : (256 : Nat) ^ 5 = 1099511627776 := by decide
  rw [e] at this
  omega
theorem numL_lt6 {l : List UInt8} (h : l.length ≤ 6) : 0 ≤ numL 0 l ∧ numL 0 l < 281474976710656 := by
  obtain ⟨h1, h2⟩ := numL_bd l 0 (by omega)
  refine ⟨h1, Int.lt_of_lt_of_le h2 ?_⟩
  have : 256 ^ l.length ≤ 256 ^ 6 := Nat.pow_le_pow_right (by omega) h
  have e : (256 : Nat) ^ 6 = 281474976710656 := by decide
  rw [e] at this
  omega
theorem or_byte (a b : Int) (h0 : 0 ≤ a) (h1 : a < 1099511627776) (b0 : 0 ≤ b) (b1 : b < 256) : bits .or .i64 (a * 256) b = a * 256 + b := by
  obtain ⟨x, rfl⟩ := Int.eq_ofNat_of_zero_le h0
  obtain ⟨y, rfl⟩ := Int.eq_ofNat_of_zero_le b0
  have e : (2 : Nat) ^ 8 = 256 := by decide
  have h := i64_or_add 8 x y (by rw [e]; omega) (by rw [e]; omega) (by omega)
  rw [e] at h
  rw [show ((x : Int) * 256) = ((256 * x : Nat) : Int) by omega, h]
  omega
theorem take_snocB (s : ByteArray) (k : Nat) (h : k < s.size) : s.data.toList.take (k + 1) = s.data.toList.take k ++ [s[k]] := by
  rw [List.take_succ_eq_append_getElem (by simpa using h)]; rfl

set_option maxHeartbeats 1000000 in
set_option maxRecDepth 100000 in
theorem number_any (s : ByteArray) (hs : s.size ≤ 6) (w : World) :
    Calls Tryd.prog 41 #[.string s] w fun e w' => e = .returned (.int .i64 (numL 0 s.data.toList)) ∧ w = w' := by
  have hl : s.data.toList.length = s.size := Array.length_toList
  go_enter Tryd.func41, Tryd.ntmps41
  go_wp2_with fail
  go_loop [3, 7] (fun n i => ∃ (k : Nat) (a : Int), k ≤ s.size ∧ i = .int .i64 k ∧ n = .int .i64 a ∧ Hid (numL 0 (s.data.toList.take k) = a)) (fun _ i => s.size - (intOf i).toNat)
  case atStart => exact ⟨0, 0, Nat.zero_le _, rfl, rfl, Lib.hid rfl⟩
  case round =>
    obtain ⟨k, a, hk, rfl, rfl, HA⟩ := hrel
    by_cases hlt : k < s.size
    · obtain ⟨a0, a1⟩ := numL_lt5 (l := s.data.toList.take k) (by rw [List.length_take]; omega)
      rw [HA.out] at a0 a1
      have hb : (s[k].toNat : Int) < 256 := by have := s[k].toNat_lt; omega
      have ho := or_byte a s[k].toNat a0 a1 (by omega) hb
      have HS : Hid (numL 0 (s.data.toList.take (k + 1)) = a * 256 + (s[k].toNat : Int)) := by
        unfold Hid; rw [take_snocB s k hlt, numL_snoc, HA.out]
      clear HA
      go_wp2_with fail
      go_round
      case rel => exact ⟨k + 1, _, by omega, by go_num, rfl, HS⟩
      case measure => simp [intOf]; omega
    · go_wp2_with fail
      go_ret
      exact ⟨ret_int (by rw [← HA.out, List.take_of_length_le (by omega)]), rfl⟩
end Go.Proofs.YtokplbfjpabolaaDoor
