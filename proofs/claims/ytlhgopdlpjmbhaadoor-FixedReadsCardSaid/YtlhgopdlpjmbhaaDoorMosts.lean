/- The walk of the law FixedMosts: it answers true for every two numbers; it writes nothing that was there; of the listed variable its one cell is asked. -/
import Derived.Test.YtlhgopdlpjmbhaaDoorText
import Derived.Test.YtlhgopdlpjmbhaaDoorRefs
import Derived.Test.YtlhgopdlpjmbhaaDoorNum
namespace Go.Proofs.YtlhgopdlpjmbhaaDoor
open Go.RowKit

/-- num at an answer's error: nil, or an api.Errno. -/
def ErrV (x : Value) (n : Int) : Prop := (x = .nilIface ∧ n = 0) ∨ x = .iface 57 (.int .i64 n)
theorem num_any (x : Value) (n : Int) (hx : ErrV x n) (w : World) (hg : LaidAt w) : Calls Tryd.prog 11 #[x] w fun e w' => e = .returned (.int .i64 n) ∧ Below w.heap.size w w' := by
  rcases hx with ⟨rfl, rfl⟩ | rfl
  · exact num_nil w
  · exact num_errno n w hg

set_option maxHeartbeats 1000000 in
set_option maxRecDepth 100000 in
theorem mosts_of (u p m n : Int) (x : Value) (w : World) (hg : LaidAt w) (hx : ErrV x n)
    (HM : ∀ w, Calls Tryd.prog 19 #[.int .i64 u, .int .i64 p] w fun e w' => e = .returned (.tuple #[.int .i64 m, x]) ∧ Below w.heap.size w w')
    (HR : ∀ w, Calls Tryd.prog 20 #[.int .i64 u, .int .i64 p] w fun e w' => e = .returned (.tuple #[.int .i64 m, .int .i64 n]) ∧ Below w.heap.size w w') :
    Calls Tryd.prog 5 #[.int .i64 u, .int .i64 p] w fun e w' => e = .returned (.bool true) ∧ Below w.heap.size w w' := by
  have JM := Lib.hid HM
  have JR := Lib.hid HR
  have JG := Lib.hid hg
  have JX := Lib.hid hx
  clear HM HR hg hx
  go_enter Tryd.func5, Tryd.ntmps5
  go_wp2_with fail
  refine (JM.out _).mono ?_
  rintro e w1 ⟨rfl, hb1⟩
  go_wp2_with fail
  refine (JR.out _).mono ?_
  rintro e w2 ⟨rfl, hb2⟩
  go_wp2_with fail
  refine (num_any x n JX.out _ (JG.out.below (bnext hb1 hb2))).mono ?_
  rintro e w3 ⟨rfl, hb3⟩
  go_wp2_with fail
  refine (sure_any _).mono ?_
  rintro e w4 ⟨rfl, hb4⟩
  go_wp2_with fail
  go_ret
  exact ⟨rfl, bnext (bnext (bnext hb1 hb2) hb3) hb4⟩

theorem mosts_any (u p : Int) (w : World) (hg : LaidAt w) :
    Calls Tryd.prog 5 #[.int .i64 u, .int .i64 p] w fun e w' => e = .returned (.bool true) ∧ Below w.heap.size w w' := by
  by_cases h : 0 ≤ u ∧ u ≤ 1048576
  · by_cases g : 1 ≤ p ∧ p ≤ 1048576
    · exact mosts_of u p _ _ _ w hg (.inl ⟨rfl, rfl⟩) (fun w => most_ok u p w h.1 h.2 g.1 g.2) (fun w => rmost_ok u p w h.1 h.2 g.1 g.2)
    · exact mosts_of u p _ _ _ w hg (.inr rfl) (fun w => most_range u p w h.1 h.2 g) (fun w => rmost_range u p w h.1 h.2 g)
  · exact mosts_of u p _ _ _ w hg (.inr rfl) (fun w => most_arg u p w h) (fun w => rmost_arg u p w h)
end Go.Proofs.YtlhgopdlpjmbhaaDoor
