/- handle.Text at every number; no condition but what the row's listed variables hold. -/
import Derived.Test.YtlnamkplbikcjaaGreatDoorYLib
import Derived.Deep.RegionHeld3
namespace Go.Proofs.YtlnamkplbikcjaaGreatDoor
open Go.RowKit

theorem ret_str {a b : ByteArray} (h : a = b) : Ending.returned (.string a) = .returned (.string b) := by rw [h]
theorem cat_list (x : ByteArray) (c : UInt8) (a b : List UInt8) (h : x = ⟨#[c]⟩) : x ++ ⟨a.toArray⟩ ++ ⟨#[46]⟩ ++ ⟨b.toArray⟩ = (⟨(c :: (a ++ 46 :: b)).toArray⟩ : ByteArray) := by
  subst h
  refine ba_of_list ?_
  simp [ByteArray.data_append]

theorem text_0 (w : World) : Calls Tryz.prog 67 #[.int .i64 0] w fun e w' => e = .returned (.string ⟨#[45]⟩) ∧ Below w.heap.size w w' := by
  go_enter Tryz.func67, Tryz.ntmps67
  go_wp2_with fail
  go_ret
  exact ⟨rfl, Below.refl _ _⟩

theorem text_no (h : Int) (h0 : h ≠ 0) (w : World) (k : ¬ okH h) : Calls Tryz.prog 67 #[.int .i64 h] w fun e w' => e = .returned (.string ⟨#[]⟩) ∧ Below w.heap.size w w' := by
  have hz : (h == 0) = false := by rw [beq_eq_false_iff_ne]; exact h0
  clear h0
  go_enter Tryz.func67, Tryz.ntmps67
  go_wp2_with fail
  refine (split_any _ _).mono ?_
  rintro e w1 ⟨rfl, rfl⟩
  go_wp2_with fail
  refine (maybe_no _ _ _ _ k).mono ?_
  rintro e w1 ⟨rfl, rfl⟩
  go_wp2_with fail
  go_ret
  exact ⟨rfl, Below.refl _ _⟩

set_option maxHeartbeats 1000000 in
set_option maxRecDepth 100000 in
theorem text_ok (h : Int) (w : World) (hg : LaidAt w) (k : okH h) : Calls Tryz.prog 67 #[.int .i64 h] w fun e w' => e = .returned (.string ⟨(textL h).toArray⟩) ∧ Below w.heap.size w w' := by
  have hz : (h == 0) = false := by rw [beq_eq_false_iff_ne]; exact okH_ne k
  obtain ⟨p1, p2, p3, p4, p5, p6⟩ := id (show okP (kOf h) (sOf h) (gOf h) from k)
  have l1 := dec_len5 (sOf h).toNat (by omega)
  have l2 := dec_len4 (gOf h).toNat (by omega)
  have HT := Lib.hid (textL_ok k)
  have HS := Lib.hid (split_any h)
  have HM := Lib.hid (fun w => maybe_ok _ _ _ w k)
  obtain ⟨s, hs⟩ := Int.eq_ofNat_of_zero_le p3
  obtain ⟨g, hgg⟩ := Int.eq_ofNat_of_zero_le (show 0 ≤ gOf h by omega)
  rw [hs, hgg] at HT HS HM
  rw [hs] at l1 p4
  rw [hgg] at l2 p6
  rw [Int.toNat_natCast] at l1 l2
  simp only [Int.toNat_natCast] at HT
  have n1 : ¬ 9223372036854775807 < 1 + (Lib.decDigits s).length := by omega
  have n2 : ¬ 9223372036854775807 < 1 + (Lib.decDigits s).length + 1 := by omega
  have n3 : ¬ 9223372036854775807 < 1 + (Lib.decDigits s).length + 1 + (Lib.decDigits g).length := by omega
  have w0 : IntKind.i64.wrap 0 = 0 := rfl
  have w1 : IntKind.i64.wrap 1 = 1 := rfl
  have w2 : IntKind.i64.wrap 2 = 2 := rfl
  clear hs hgg p3 p5 k
  have JG := Lib.hid hg
  clear hg
  generalize kOf h = y at *
  have hy : y = 1 ∨ y = 2 ∨ y = 3 := by omega
  rw [HT.out]
  clear HT
  clear p1 p2
  rcases hy with rfl | rfl | rfl
  all_goals
    go_enter Tryz.func67, Tryz.ntmps67
    go_wp2_with fail
    refine (HS.out _).mono ?_
    rintro e w1 ⟨rfl, rfl⟩
    go_wp2_with fail
    refine (HM.out _).mono ?_
    rintro e w1 ⟨rfl, rfl⟩
    go_wp2_with fail
    go_region_held3 (fun w' => LaidAt w' ∧ Below w.heap.size w w')
      (first
        | (go_split_ands; exact ⟨LaidAt.below (by assumption) hb, bnext (by assumption) hb⟩)
        | exact ⟨LaidAt.below JG.out (Below.drew (Below.refl _ _)), Below.drew (Below.refl _ _)⟩
        | (go_split_ands; exact ⟨by assumption, by assumption⟩)
        | go_keep)
      (first | (go_at_call 41; refine (itoa_any _ (by omega) _ (by first | assumption | (go_split_ands; assumption))).mono ?_; rintro e w' ⟨rfl, hb⟩))
    go_wp2
    go_ret
    go_split_ands
    exact ⟨ret_str (cat_list _ _ _ _ rfl), by assumption⟩
theorem text_any (h : Int) (w : World) (hg : LaidAt w) : Calls Tryz.prog 67 #[.int .i64 h] w fun e w' => e = .returned (.string ⟨(textL h).toArray⟩) ∧ Below w.heap.size w w' := by
  by_cases h0 : h = 0
  · subst h0; exact text_0 w
  · by_cases k : okH h
    · exact text_ok h w hg k
    · rw [textL_no k h0]; exact text_no h h0 w k
end Go.Proofs.YtlnamkplbikcjaaGreatDoor
