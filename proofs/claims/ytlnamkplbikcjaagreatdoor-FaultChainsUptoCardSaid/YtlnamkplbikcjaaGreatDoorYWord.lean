/- The program's words: OpName, Told, an Errno's own text; at every int; no condition but what the rows' listed variables hold. -/
import Derived.Test.YtlnamkplbikcjaaGreatDoorYTextW
import Derived.Test.YtlnamkplbikcjaaGreatDoorNKeep
namespace Go.Proofs.YtlnamkplbikcjaaGreatDoor
open Go.RowKit Ft

theorem cat2 (a b : List UInt8) : (⟨a.toArray⟩ : ByteArray) ++ ⟨b.toArray⟩ = ⟨(a ++ b).toArray⟩ := by
  refine ba_of_list ?_
  simp [ByteArray.data_append]
theorem bsize (a : List UInt8) : (⟨a.toArray⟩ : ByteArray).size = a.length := by simp [ByteArray.size]
set_option maxHeartbeats 1000000 in
theorem opname_no (op : Int) (hi : I64 op) (h : ¬ (1 ≤ op ∧ op ≤ 9)) (w : World) (hg : LaidAt w) :
    Calls Tryz.prog 54 #[.int .i64 op] w fun e w' => e = .returned (.string ⟨(opL op).toArray⟩) ∧ Below w.heap.size w w' := by
  have hl := itoa_len op hi
  have n1 : ¬ 9223372036854775807 < 3 + (Lib.itoa op).length := by omega
  have HI := Lib.hid (itoa_i op hi)
  have HG := Lib.hid hg
  have HO := Lib.hid (show opL op = [111, 112, 32] ++ Lib.itoa op by unfold opL; rw [if_neg h])
  clear hg hi hl
  by_cases h1 : op < 1
  · clear h
    go_enter Tryz.func54, Tryz.ntmps54
    go_wp2_with fail
    refine (HI.out _ HG.out).mono ?_
    rintro e w1 ⟨rfl, hb1⟩
    go_wp2_with fail
    go_ret
    exact ⟨ret_str (by rw [HO.out, ← cat2]), hb1⟩
  · have h2 : 9 < op := by omega
    clear h
    go_enter Tryz.func54, Tryz.ntmps54
    go_wp2_with fail
    refine (HI.out _ HG.out).mono ?_
    rintro e w1 ⟨rfl, hb1⟩
    go_wp2_with fail
    go_ret
    exact ⟨ret_str (by rw [HO.out, ← cat2]), hb1⟩
set_option maxHeartbeats 1000000 in
theorem opname_ok (op : Int) (h : 1 ≤ op ∧ op ≤ 9) (w : World) (hg : LaidAt w) :
    Calls Tryz.prog 54 #[.int .i64 op] w fun e w' => e = .returned (.string ⟨(opL op).toArray⟩) ∧ Below w.heap.size w w' := by
  have hO : opL op = ops.getD op.toNat [] := by unfold opL; rw [if_pos h]
  rw [hO]
  obtain ⟨n, rfl⟩ := Int.eq_ofNat_of_zero_le (show 0 ≤ op by omega)
  rw [Int.toNat_natCast]
  have c := hg.ops n (by omega)
  have h1 : ¬ (n : Int) < 1 := by omega
  have h2 : ¬ 9 < (n : Int) := by omega
  have h3 : (n : Int) < 10 := by omega
  have h0 : ¬ (n : Int) < 0 := by omega
  generalize ops.getD n [] = L at c ⊢
  clear h hO hg
  go_enter Tryz.func54, Tryz.ntmps54
  go_wp2_with fail
  go_ret
  exact ⟨rfl, Below.refl _ _⟩
theorem opname (op : Int) (hi : I64 op) (w : World) (hg : LaidAt w) :
    Calls Tryz.prog 54 #[.int .i64 op] w fun e w' => e = .returned (.string ⟨(opL op).toArray⟩) ∧ Below w.heap.size w w' := by
  by_cases h : 1 ≤ op ∧ op ≤ 9
  · exact opname_ok op h w hg
  · exact opname_no op hi h w hg

set_option maxHeartbeats 1000000 in
theorem told_h (h : Int) (hi : I64 h) (w : World) (hg : LaidAt w) :
    Calls Tryz.prog 55 #[.int .i64 h] w fun e w' => e = .returned (.string ⟨(toldL h).toArray⟩) ∧ Below w.heap.size w w' := by
  have hl := itoa_len h hi
  have n1 : ¬ 9223372036854775807 < 1 + (Lib.itoa h).length := by omega
  have HI := Lib.hid (itoa_i h hi)
  have HT := Lib.hid (text_any h)
  have HG := Lib.hid hg
  unfold toldL
  clear hi hl
  clear hg
  cases hx : textL h with
  | nil =>
    rw [hx] at HT
    have HX := Lib.hid hx
    clear hx
    rw [if_pos rfl]
    go_enter Tryz.func55, Tryz.ntmps55
    go_wp2_with fail
    refine (HT.out _ HG.out).mono ?_
    rintro e w1 ⟨rfl, hb1⟩
    go_wp2_with fail
    refine (HI.out _ (HG.out.below hb1)).mono ?_
    rintro e w2 ⟨rfl, hb2⟩
    go_wp2_with fail
    go_ret
    exact ⟨ret_str (by rw [show (35 :: Lib.itoa h : List UInt8) = [35] ++ Lib.itoa h from rfl, ← cat2]), bnext hb1 hb2⟩
  | cons x l =>
    rw [hx] at HT
    have HX := Lib.hid hx
    clear hx
    rw [if_neg (by simp)]
    go_enter Tryz.func55, Tryz.ntmps55
    go_wp2_with fail
    refine (HT.out _ HG.out).mono ?_
    rintro e w1 ⟨rfl, hb1⟩
    go_wp2_with fail
    go_ret
    exact ⟨rfl, hb1⟩

set_option maxHeartbeats 1000000 in
theorem errno_text (n : Int) (hi : I64 n) (w : World) (hg : LaidAt w) :
    Calls Tryz.prog 27 #[.int .i64 n] w fun e w' => e = .returned (.string ⟨(errL n).toArray⟩) ∧ Below w.heap.size w w' := by
  have hl := itoa_len n hi
  have n1 : ¬ 9223372036854775807 < 6 + (Lib.itoa n).length := by omega
  have HI := Lib.hid (itoa_i n hi)
  have HG := Lib.hid hg
  clear hg hi hl
  go_enter Tryz.func27, Tryz.ntmps27
  go_wp2_with fail
  refine (HI.out _ HG.out).mono ?_
  rintro e w1 ⟨rfl, hb1⟩
  go_wp2_with fail
  go_ret
  exact ⟨ret_str (by unfold errL; rw [← cat2]), hb1⟩
end Go.Proofs.YtlnamkplbikcjaaGreatDoor
