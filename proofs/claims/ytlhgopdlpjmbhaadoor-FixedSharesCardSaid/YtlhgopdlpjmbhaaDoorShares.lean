/- The walk of the law FixedShares: it answers true for every reservation; it writes nothing that was there; of the listed variable its one cell is asked. -/
import Derived.Test.YtlhgopdlpjmbhaaDoorMosts
import Derived.Deep.RegionHeld3
namespace Go.Proofs.YtlhgopdlpjmbhaaDoor
open Go.RowKit

set_option maxHeartbeats 4000000 in
set_option maxRecDepth 100000 in
theorem shares_of (q p m n : Int) (x : Value) (w : World) (hg : LaidAt w) (hx : ErrV x n)
    (HM : ∀ w, Calls Tryd.prog 9 #[.agg #[.int .i64 q, .int .i64 p]] w fun e w' => e = .returned (.tuple #[.int .i64 m, x]) ∧ Below w.heap.size w w')
    (HR : ∀ w, Calls Tryd.prog 10 #[.agg #[.int .i64 q, .int .i64 p]] w fun e w' => e = .returned (.tuple #[.int .i64 m, .int .i64 n]) ∧ Below w.heap.size w w')
    (HV : ∀ w, Calls Tryd.prog 12 #[.agg #[.int .i64 q, .int .i64 p]] w fun e w' => e = .returned x ∧ Below w.heap.size w w')
    (HW : ∀ w, Calls Tryd.prog 13 #[.agg #[.int .i64 q, .int .i64 p]] w fun e w' => e = .returned (.int .i64 n) ∧ Below w.heap.size w w') :
    Calls Tryd.prog 3 #[.agg #[.int .i64 q, .int .i64 p]] w fun e w' => e = .returned (.bool true) ∧ Below w.heap.size w w' := by
  have JM := Lib.hid HM
  have JR := Lib.hid HR
  have JV := Lib.hid HV
  have JW := Lib.hid HW
  have JG := Lib.hid hg
  have JX := Lib.hid hx
  clear HM HR HV HW hg hx
  go_enter Tryd.func3, Tryd.ntmps3
  go_wp2_with fail
  refine (JM.out _).mono ?_
  rintro e w1 ⟨rfl, hb1⟩
  obtain ⟨hc1, hf1⟩ := bcell hb1
  have y1 : w.heap.size < w1.heap.size := by have := hb1.size; simp at this; omega
  go_wp2_with fail
  refine (JR.out _).mono ?_
  rintro e w2 ⟨rfl, hb2⟩
  have hB : Below w.heap.size w w2 := bnext (bnext ((Below.refl _ _).alloc (Nat.le_refl _) _) hb1) hb2
  have c0 : w2.cell? ⟨w.heap.size, 0, none⟩ = some (.int .i64 q) := by
    rw [hb2.cell (p := ⟨w.heap.size, 0, none⟩) y1, hb1.cell (p := ⟨w.heap.size, 0, none⟩) (by simp)]; simp
  have c1 : w2.cell? ⟨w.heap.size, 1, none⟩ = some (.int .i64 p) := by
    rw [hb2.cell (p := ⟨w.heap.size, 1, none⟩) y1, hb1.cell (p := ⟨w.heap.size, 1, none⟩) (by simp)]; simp
  have y2 : w.heap.size < w2.heap.size := Nat.lt_of_lt_of_le y1 hb2.size
  have hL : LaidAt w2 := JG.out.below hB
  clear hc1 hf1 hb1 hb2 y1 JM JR
  go_wp2_with fail
  go_region_held3 (fun w' => w'.cell? ⟨w.heap.size, 0, none⟩ = some (.int .i64 q) ∧ w'.cell? ⟨w.heap.size, 1, none⟩ = some (.int .i64 p) ∧ LaidAt w' ∧ Below w.heap.size w w' ∧ w.heap.size < w'.heap.size)
    (first
      | (go_split_ands; exact ⟨(hb.cell (p := ⟨w.heap.size, 0, none⟩) (by assumption)).trans (by assumption), (hb.cell (p := ⟨w.heap.size, 1, none⟩) (by assumption)).trans (by assumption), LaidAt.below (by assumption) hb, bnext (by assumption) hb, Nat.lt_of_lt_of_le (by assumption) hb.size⟩)
      | exact ⟨c0, c1, hL, Below.drew hB, y2⟩
      | go_keep)
    (first
      | (go_at_call 11; refine (num_any x n JX.out _ (by first | assumption | (go_split_ands; assumption))).mono ?_; rintro e w' ⟨rfl, hb⟩)
      | (go_at_call 12; refine (JV.out _).mono ?_; rintro e w' ⟨rfl, hb⟩)
      | (go_at_call 13; refine (JW.out _).mono ?_; rintro e w' ⟨rfl, hb⟩)
      | (go_at_call 14; refine (sure_any _).mono ?_; rintro e w' ⟨rfl, hb⟩))
  go_wp2
  go_ret
  go_split_ands
  exact ⟨rfl, by assumption⟩

theorem shares_any (q p : Int) (w : World) (hg : LaidAt w) :
    Calls Tryd.prog 3 #[.agg #[.int .i64 q, .int .i64 p]] w fun e w' => e = .returned (.bool true) ∧ Below w.heap.size w w' := by
  by_cases h : okR q p
  · exact shares_of q p _ _ _ w hg (.inl ⟨rfl, rfl⟩) (fun w => share_ok q p w h) (fun w => rshare_ok q p w h) (fun w => valid_ok q p w h) (fun w => rvalid_ok q p w h)
  · exact shares_of q p _ _ _ w hg (.inr rfl) (fun w => share_no q p w h) (fun w => rshare_no q p w h) (fun w => valid_no q p w h) (fun w => rvalid_no q p w h)
end Go.Proofs.YtlhgopdlpjmbhaaDoor
