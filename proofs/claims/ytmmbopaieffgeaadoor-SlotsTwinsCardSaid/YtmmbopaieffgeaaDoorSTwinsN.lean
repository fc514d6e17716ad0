/- The law SlotsTwins at every input: where no table may be, and where one is. -/
import Derived.Test.YtmmbopaieffgeaaDoorSLawTwins
namespace Go.Proofs.YtmmbopaieffgeaaDoor
open Go.RowKit

set_option maxHeartbeats 2000000 in
set_option maxRecDepth 100000 in
theorem twins_no (many : Int) (v v2 : Value) (w : World) (hg : LaidAt w) (h : ¬ (1 ≤ (2 : Int) ∧ (2 : Int) ≤ 3 ∧ 1 ≤ many ∧ many ≤ 4096)) :
    Calls Tryd.prog 7 #[.int .i64 many, v, v2] w fun e w' => e = .returned (.bool true) ∧ Below w.heap.size w w' := by
  have HP := Lib.hid (fun w => pnew_no 2 many w h)
  have HR := Lib.hid (fun w => rnew_no 2 many w h)
  have HG := Lib.hid hg
  clear h hg
  go_enter Tryd.func7, Tryd.ntmps7
  go_wp2_with fail
  refine (HP.out _).mono ?_
  rintro e w1 ⟨rfl, rfl⟩
  go_wp2_with fail
  refine (HR.out _).mono ?_
  rintro e w1 ⟨rfl, hb1⟩
  have HB1 := Lib.hid (below_alloc hb1 (.cells #[.int .i64 0, .slice none 0 0, .slice none 0 0, .slice none 0 0] 30))
  clear hb1
  go_wp2_with fail
  refine (num_errno 1 _ (HG.out.below HB1.out)).mono ?_
  rintro e w2 ⟨rfl, hb2⟩
  have HB2 := Lib.hid (bnext HB1.out hb2)
  clear hb2
  go_wp2_with fail
  refine (sure_true _).mono ?_
  rintro e w3 ⟨rfl, hb3⟩
  go_wp2_with fail
  go_ret
  exact ⟨rfl, bnext HB2.out hb3⟩

theorem twins_any (many : Int) (v v2 : Value) (l more : List (Int × Int × Int)) (w : World) (hg : LaidAt w) (hv : OpsAt w v l) (hv2 : OpsAt w v2 more) :
    Calls Tryd.prog 7 #[.int .i64 many, v, v2] w fun e w' => e = .returned (.bool true) ∧ Below w.heap.size w w' := by
  by_cases h : 1 ≤ many ∧ many ≤ 4096
  · obtain ⟨n, rfl⟩ := Int.eq_ofNat_of_zero_le (show 0 ≤ many by omega)
    exact twins_ok n v v2 l more w hg hv hv2 (by omega) (by omega)
  · exact twins_no many v v2 w hg (by omega)
end Go.Proofs.YtmmbopaieffgeaaDoor
