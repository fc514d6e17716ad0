/- The walk of the law HandleMakes: it answers true for every kind, slot and generation; it writes nothing that was there. -/
import Derived.Test.YtokplbfjpabolaaDoorHWorks
namespace Go.Proofs.YtokplbfjpabolaaDoor
open Go.RowKit

set_option maxHeartbeats 1000000 in
set_option maxRecDepth 100000 in
theorem makes_of (k s g m n : Int) (x : Value) (w : World) (hg : LaidAt w) (hx : ErrV x n)
    (HM : ∀ w, Calls Tryd.prog 9 #[.int .i64 k, .int .i64 s, .int .i64 g] w fun e w' => e = .returned (.tuple #[.int .i64 m, x]) ∧ w = w')
    (HR : ∀ w, Calls Tryd.prog 10 #[.int .i64 k, .int .i64 s, .int .i64 g] w fun e w' => e = .returned (.tuple #[.int .i64 m, .int .i64 n]) ∧ w = w') :
    Calls Tryd.prog 3 #[.int .i64 k, .int .i64 s, .int .i64 g] w fun e w' => e = .returned (.bool true) ∧ Below w.heap.size w w' := by
  have JM := Lib.hid HM
  have JR := Lib.hid HR
  have JG := Lib.hid hg
  have JX := Lib.hid (num_any x n hx)
  clear HM HR hg hx
  go_enter Tryd.func3, Tryd.ntmps3
  go_wp2_with fail
  refine (JM.out _).mono ?_
  rintro e w1 ⟨rfl, rfl⟩
  go_wp2_with fail
  refine (JR.out _).mono ?_
  rintro e w1 ⟨rfl, rfl⟩
  go_wp2_with fail
  refine (JX.out _).mono ?_
  rintro e w1 ⟨rfl, rfl⟩
  go_wp2_with fail
  refine (works_any _ JG.out).mono ?_
  rintro e w1 ⟨rfl, hb⟩
  go_wp2_with fail
  go_ret
  exact ⟨rfl, hb⟩

theorem makes_any (k s g : Int) (w : World) (hg : LaidAt w) :
    Calls Tryd.prog 3 #[.int .i64 k, .int .i64 s, .int .i64 g] w fun e w' => e = .returned (.bool true) ∧ Below w.heap.size w w' := by
  by_cases h : okP k s g
  · exact makes_of k s g _ 0 .nilIface w hg (.inl ⟨rfl, rfl⟩) (fun w => make_ok k s g w h) (fun w => rmake_ok k s g w h)
  · exact makes_of k s g _ 1 _ w hg (.inr rfl) (fun w => make_no k s g w h) (fun w => rmake_no k s g w h)
end Go.Proofs.YtokplbfjpabolaaDoor
