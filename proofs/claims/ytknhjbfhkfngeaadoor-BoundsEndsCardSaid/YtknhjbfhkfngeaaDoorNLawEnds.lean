/- The walk of the law BoundsEnds: it answers true whatever comes in; no condition but what the one variable holds and that the last time is an int. -/
import Derived.Test.YtknhjbfhkfngeaaDoorNEndsP
import Derived.Test.YtknhjbfhkfngeaaDoorNSure
import Derived.Test.YtknhjbfhkfngeaaDoorNNum
namespace Go.Proofs.YtknhjbfhkfngeaaDoor
open Go.RowKit

theorem num_errP (n : Int) (w : World) (hL : LaidAt w) : Calls Tryd.prog 7 #[errP n] w fun e w' => e = .returned (.int .i64 n) ∧ Below w.heap.size w w' := by
  unfold errP
  by_cases h : n = 0
  · rw [if_pos h, h]; exact num_nil w
  · rw [if_neg h]; exact num_errno n w hL
set_option maxHeartbeats 1000000 in
theorem ends_any (q p a b : Int) (w : World) (hL : LaidAt w) (hb : b ≤ 9223372036854775807) :
    Calls Tryd.prog 4 #[.agg #[.int .i64 q, .int .i64 p], .int .i64 a, .int .i64 b] w fun e w' => e = .returned (.bool true) ∧ Below w.heap.size w w' := by
  have HP := Lib.hid (fun w => pends_any q p a b w hb)
  have HR := Lib.hid (fun w => rends_any q p a b w hb)
  have HM := Lib.hid (endM_le q p a b)
  have HLD := Lib.hid hL
  have HNU := Lib.hid (fun w hl => num_errP (endE q p a b) w hl)
  have HS := Lib.hid sure_any
  obtain ⟨m, hm⟩ : ∃ m, m = endM q p a b := ⟨_, rfl⟩
  rw [← hm] at HP HR HM
  generalize errP (endE q p a b) = ev at *
  generalize endE q p a b = en at *
  clear hL hm
  go_enter Tryd.func4, Tryd.ntmps4
  go_wp2_with fail
  refine (HP.out _).mono ?_
  rintro e w1 ⟨v1, rfl, ho1, hb1⟩
  have HB1 := Lib.hid (show Below w.heap.size w w1 from by first | exact hb1 | exact ((Below.refl w.heap.size w).alloc (Nat.le_refl _) _).trans (hb1.mono (by simp)))
  obtain ⟨p1, c1, rfl, _⟩ := own_small ho1
  have HO1 := Lib.hid (RowOf.of_own ho1 (ends_row _ _ _))
  have x0 : w1.cell? ⟨w.heap.size, 0, none⟩ = some (.int .i64 q) := (hb1.cell (p := ⟨w.heap.size, 0, none⟩) (by simp)).trans (by simp)
  have x1 : w1.cell? ⟨w.heap.size, 1, none⟩ = some (.int .i64 p) := (hb1.cell (p := ⟨w.heap.size, 1, none⟩) (by simp)).trans (by simp)
  clear ho1 hb1
  go_wp2_with fail
  refine (HR.out _).mono ?_
  rintro e w2 ⟨v2, rfl, ho2, hb2⟩
  have HB2 := Lib.hid (bnext HB1.out hb2)
  obtain ⟨p2, c2, rfl, _⟩ := own_small ho2
  have HSA := Lib.hid (same_any w2 _ _ _ m (HO1.out.below hb2) (RowOf.of_own ho2 (ends_row _ _ _)) (by have := HM.out; omega))
  clear ho2 hb2 HO1
  go_wp2_with fail
  refine HSA.out.mono ?_
  rintro e w3 ⟨rfl, hb3⟩
  have HB3 := Lib.hid (bnext HB2.out hb3)
  have HN := Lib.hid (HNU.out w3 (HLD.out.below HB3.out))
  clear hb3
  go_wp2_with fail
  refine HN.out.mono ?_
  rintro e w4 ⟨rfl, hb4⟩
  have HB4 := Lib.hid (bnext HB3.out hb4)
  have HSU := Lib.hid (HS.out w4)
  clear hb4
  go_wp2_with fail
  refine HSU.out.mono ?_
  rintro e w5 ⟨rfl, hb5⟩
  have HB5 := Lib.hid (bnext HB4.out hb5)
  clear hb5
  go_wp2_with fail
  go_ret
  exact ⟨rfl, HB5.out⟩
end Go.Proofs.YtknhjbfhkfngeaaDoor
