/- Plain mathematics for stage 2: a handle's number and its parts, in shifts and masks and in division; nothing of the program; no condition. -/
import Derived.Laws.BitsAllLaws
import Derived.Laws.BitsLemmas
import Derived.RowKit
namespace Go.Proofs.YtlnamkplbikcjaaGreatDoor
open Go.RowKit

/-- Parts that may be. -/
def okP (k s g : Int) : Prop := 1 ≤ k ∧ k ≤ 3 ∧ 0 ≤ s ∧ s ≤ 65535 ∧ 1 ≤ g ∧ g ≤ 1023
def kOf (h : Int) : Int := h / 1099511627776
def sOf (h : Int) : Int := h / 1048576 % 1048576
def gOf (h : Int) : Int := h % 1048576
/-- A number that may be a handle. -/
def okH (h : Int) : Prop := okP (kOf h) (sOf h) (gOf h)
def mkH (k s g : Int) : Int := k * 1099511627776 + s * 1048576 + g

theorem sOf_nonneg (h : Int) : 0 ≤ sOf h ∧ sOf h < 1048576 := by unfold sOf; omega
theorem gOf_nonneg (h : Int) : 0 ≤ gOf h ∧ gOf h < 1048576 := by unfold gOf; omega
theorem mk_of (h : Int) : mkH (kOf h) (sOf h) (gOf h) = h := by unfold mkH kOf sOf gOf; omega
theorem of_mk {k s g : Int} (h : okP k s g) : kOf (mkH k s g) = k ∧ sOf (mkH k s g) = s ∧ gOf (mkH k s g) = g := by
  unfold okP at h; unfold mkH kOf sOf gOf; omega
theorem ok_mk {k s g : Int} (h : okP k s g) : okH (mkH k s g) := by
  obtain ⟨a, b, c⟩ := of_mk h
  unfold okH; rw [a, b, c]; exact h
theorem okH_bd {h : Int} (k : okH h) : 1099511627777 ≤ h ∧ h ≤ 3367253312511 := by unfold okH okP kOf sOf gOf at k; omega
theorem okH_ne {h : Int} (k : okH h) : h ≠ 0 := by have := okH_bd k; omega
theorem not_ok0 : ¬ okH 0 := fun k => okH_ne k rfl

theorem ofInt_i64_toNat (a : Int) : ((BitVec.ofInt 64 a).toNat : Int) = a % 18446744073709551616 := by
  rw [BitVec.toNat_ofInt]
  have : (0 : Int) ≤ a % 18446744073709551616 := Int.emod_nonneg _ (by omega)
  show ((a % ((2 ^ 64 : Nat) : Int)).toNat : Int) = _
  rw [show ((2 ^ 64 : Nat) : Int) = 18446744073709551616 by decide]
  omega

/-- A mask of twenty bits, at every int. -/
theorem i64_mask (a : Int) : bits .and .i64 a 1048575 = a % 1048576 := by
  show IntKind.i64.wrap ((BitVec.ofInt 64 a &&& BitVec.ofInt 64 1048575).toNat : Int) = _
  have h1 : (BitVec.ofInt 64 1048575).toNat = 2 ^ 20 - 1 := by decide
  rw [BitVec.toNat_and, h1, Nat.and_two_pow_sub_one_eq_mod, IntKind.wrap_i64]
  have h2 := ofInt_i64_toNat a
  generalize (BitVec.ofInt 64 a).toNat = n at *
  have : (2 : Nat) ^ 20 = 1048576 := by decide
  rw [this]
  omega

theorem ofInt_i64n (a : Nat) (ha : a < 9223372036854775808) : (BitVec.ofInt 64 (a : Int)).toNat = a := by
  rw [BitVec.ofInt_natCast, BitVec.toNat_ofNat]; exact Nat.mod_eq_of_lt (by omega)
theorem i64_or_n (a b : Nat) (ha : a < 9223372036854775808) (hb : b < 9223372036854775808) : bits .or .i64 (a : Int) (b : Int) = ((a ||| b : Nat) : Int) := by
  have hx : a ||| b < 2 ^ 63 := Nat.or_lt_two_pow (by omega) (by omega)
  show IntKind.i64.wrap ((BitVec.ofInt 64 (a : Int) ||| BitVec.ofInt 64 (b : Int)).toNat : Int) = _
  rw [BitVec.toNat_or, ofInt_i64n a ha, ofInt_i64n b hb, IntKind.wrap_i64]
  omega
/-- Bits that don't meet are a sum. -/
theorem i64_or_add (i : Nat) (a b : Nat) (hb : b < 2 ^ i) (ha : 2 ^ i * a < 9223372036854775808) (hb2 : b < 9223372036854775808) : bits .or .i64 ((2 ^ i * a : Nat) : Int) (b : Int) = ((2 ^ i * a + b : Nat) : Int) := by
  rw [i64_or_n _ _ ha hb2, Nat.two_pow_add_eq_or_of_lt hb]
theorem or_k (k s : Int) (hk : 0 ≤ k) (hk' : k ≤ 3) (hs : 0 ≤ s) (hs' : s ≤ 65535) : bits .or .i64 (k * 1099511627776) (s * 1048576) = k * 1099511627776 + s * 1048576 := by
  obtain ⟨a, rfl⟩ := Int.eq_ofNat_of_zero_le hk
  obtain ⟨b, rfl⟩ := Int.eq_ofNat_of_zero_le hs
  have e : (2 : Nat) ^ 40 = 1099511627776 := by decide
  have h := i64_or_add 40 a (b * 1048576) (by rw [e]; omega) (by rw [e]; omega) (by omega)
  rw [e] at h
  rw [show ((a : Int) * 1099511627776) = ((1099511627776 * a : Nat) : Int) by omega, show ((b : Int) * 1048576) = ((b * 1048576 : Nat) : Int) by omega, h]
  omega
theorem or_s (k s g : Int) (hk : 0 ≤ k) (hk' : k ≤ 3) (hs : 0 ≤ s) (hs' : s ≤ 65535) (hg : 0 ≤ g) (hg' : g ≤ 1023) : bits .or .i64 (k * 1099511627776 + s * 1048576) g = mkH k s g := by
  obtain ⟨a, rfl⟩ := Int.eq_ofNat_of_zero_le hk
  obtain ⟨b, rfl⟩ := Int.eq_ofNat_of_zero_le hs
  obtain ⟨c, rfl⟩ := Int.eq_ofNat_of_zero_le hg
  have e : (2 : Nat) ^ 20 = 1048576 := by decide
  have h := i64_or_add 20 (a * 1048576 + b) c (by rw [e]; omega) (by rw [e]; omega) (by omega)
  rw [e] at h
  rw [show ((a : Int) * 1099511627776 + (b : Int) * 1048576) = ((1048576 * (a * 1048576 + b) : Nat) : Int) by omega, h]
  unfold mkH
  omega

/-- The order of handles is that of their parts. -/
theorem lt_parts {a b : Int} (ha : okH a) (hb : okH b) : a < b ↔ kOf a < kOf b ∨ (kOf a = kOf b ∧ (sOf a < sOf b ∨ (sOf a = sOf b ∧ gOf a < gOf b))) := by
  unfold okH okP kOf sOf gOf at *; omega
theorem eq_parts {a b : Int} : a = b ↔ kOf a = kOf b ∧ sOf a = sOf b ∧ gOf a = gOf b := by
  unfold kOf sOf gOf; omega

/-- Next. -/
theorem next_parts {h : Int} (k : okH h) (g : gOf h < 1023) : okH (h + 1) ∧ kOf (h + 1) = kOf h ∧ sOf (h + 1) = sOf h ∧ gOf (h + 1) = gOf h + 1 := by
  unfold okH okP kOf sOf gOf at *; omega

/-- Six bytes of a number, the highest first. -/
def byteAt (h : Int) (d : Int) : UInt8 := UInt8.ofNat (h / d % 256).toNat
def six (h : Int) : List UInt8 := [byteAt h 1099511627776, byteAt h 4294967296, byteAt h 16777216, byteAt h 65536, byteAt h 256, byteAt h 1]
theorem byteAt_toNat (h d : Int) : ((byteAt h d).toNat : Int) = h / d % 256 := by
  unfold byteAt
  rw [UInt8.toNat_ofNat']
  omega
/-- The number of bytes. -/
def numL (acc : Int) : List UInt8 → Int
  | [] => acc
  | b :: r => numL (acc * 256 + (b.toNat : Int)) r
theorem num_six {h : Int} (h0 : 0 ≤ h) (h1 : h < 281474976710656) : numL 0 (six h) = h := by
  unfold six
  simp only [numL, byteAt_toNat]
  omega
theorem six_length (h : Int) : (six h).length = 6 := rfl
end Go.Proofs.YtlnamkplbikcjaaGreatDoor
