/- The walk of the law BudgetNews: it answers true for every reservation and time; it writes nothing that was there; of the listed variable its one cell is asked. -/
import Derived.Test.YtbkbmpnhjmcenaaDoorBBox
namespace Go.Proofs.YtbkbmpnhjmcenaaDoor
open Go.RowKit

set_option maxHeartbeats 1000000 in
set_option maxRecDepth 100000 in
theorem news_of (q p at0 b0 b1 b2 b3 : Int) (b4 : Bool) (b5 b6 b7 n : Int) (x : Value) (w : World) (hg : LaidAt w) (hx : ErrV x n)
    (HM : ∀ w, Calls Tryd.prog 6 #[.agg #[.int .i64 q, .int .i64 p], .int .i64 at0] w fun e w' => e = .returned (.tuple #[.agg #[.int .i64 b0, .int .i64 b1, .int .i64 b2, .int .i64 b3, .bool b4, .int .i64 b5, .int .i64 b6, .int .i64 b7], x]) ∧ Below w.heap.size w w')
    (HR : ∀ w, Calls Tryd.prog 7 #[.agg #[.int .i64 q, .int .i64 p], .int .i64 at0] w fun e w' => e = .returned (.tuple #[.agg #[.int .i64 b0, .int .i64 b1, .int .i64 b2, .int .i64 b3, .bool b4, .int .i64 b5, .int .i64 b6, .int .i64 b7], .int .i64 n]) ∧ Below w.heap.size w w') :
    Calls Tryd.prog 3 #[.agg #[.int .i64 q, .int .i64 p], .int .i64 at0] w fun e w' => e = .returned (.bool true) ∧ Below w.heap.size w w' := by
  have JM := Lib.hid HM
  have JR := Lib.hid HR
  have JG := Lib.hid hg
  have JX := Lib.hid hx
  clear HM HR hg hx
  go_enter Tryd.func3, Tryd.ntmps3
  go_wp2_with fail
  refine (JM.out _).mono ?_
  rintro e w1 ⟨rfl, hb1⟩
  have y1 : w.heap.size < w1.heap.size := by have := hb1.size; simp at this; omega
  have r0 : w1.cell? ⟨w.heap.size, 0, none⟩ = some (.int .i64 q) := by rw [hb1.cell (p := ⟨w.heap.size, 0, none⟩) (by simp)]; simp
  have r1 : w1.cell? ⟨w.heap.size, 1, none⟩ = some (.int .i64 p) := by rw [hb1.cell (p := ⟨w.heap.size, 1, none⟩) (by simp)]; simp
  have HB1 : Hid (Below w.heap.size w w1) := Lib.hid (bnext ((Below.refl _ _).alloc (Nat.le_refl _) _) hb1)
  clear hb1
  have HX1 := Lib.hid (Bx.new w1 25 (.int .i64 b0) (.int .i64 b1) (.int .i64 b2) (.int .i64 b3) (.bool b4) (.int .i64 b5) (.int .i64 b6) (.int .i64 b7))
  go_wp2_with fail
  refine (JR.out _).mono ?_
  rintro e w2 ⟨rfl, hb2⟩
  have HB2 : Hid (Below w.heap.size w w2) := Lib.hid (bnext ((HB1.out).alloc (Nat.le_of_lt y1) _) hb2)
  have y2 : w1.heap.size < w2.heap.size := (HX1.out.below hb2).lt
  obtain ⟨c0, c1, c2, c3, c4, c5, c6, c7⟩ := (HX1.out.below hb2).cells
  clear hb2 r0 r1
  go_wp2_with fail
  refine (same_refl b0 b1 b2 b3 b4 b5 b6 b7 _).mono ?_
  rintro e w3 ⟨rfl, hb3⟩
  have HB3 : Hid (Below w.heap.size w w3) := Lib.hid (bnext ((HB2.out).alloc (by omega) _) hb3)
  clear hb3
  go_wp2_with fail
  refine (num_any x n JX.out _ (JG.out.below HB3.out)).mono ?_
  rintro e w4 ⟨rfl, hb4⟩
  go_wp2_with fail
  refine (sure_any _).mono ?_
  rintro e w5 ⟨rfl, hb5⟩
  go_wp2_with fail
  go_ret
  exact ⟨rfl, bnext (bnext HB3.out hb4) hb5⟩

theorem news_any (q p at0 : Int) (w : World) (hg : LaidAt w) :
    Calls Tryd.prog 3 #[.agg #[.int .i64 q, .int .i64 p], .int .i64 at0] w fun e w' => e = .returned (.bool true) ∧ Below w.heap.size w w' := by
  by_cases h0 : at0 < 0
  · exact news_of q p at0 0 0 0 0 false 0 0 0 1 _ w hg (.inr rfl) (fun w => new_neg q p at0 w h0) (fun w => rnew_neg q p at0 w h0)
  · by_cases h : okR q p
    · by_cases h1 : at0 ≤ 1073741824
      · exact news_of q p at0 _ _ _ _ _ _ _ _ 0 _ w hg (.inl ⟨rfl, rfl⟩) (fun w => new_ok q p at0 w h (by omega) h1) (fun w => rnew_ok q p at0 w h (by omega) h1)
      · exact news_of q p at0 0 0 0 0 false 0 0 0 60 _ w hg (.inr rfl) (fun w => new_late q p at0 w (by omega) h) (fun w => rnew_late q p at0 w (by omega) h)
    · exact news_of q p at0 0 0 0 0 false 0 0 0 2 _ w hg (.inr rfl) (fun w => new_no q p at0 w (by omega) h) (fun w => rnew_no q p at0 w (by omega) h)
end Go.Proofs.YtbkbmpnhjmcenaaDoor
