/- The walk of the law HandleParts: it answers true for every number; it writes nothing that was there. -/
import Derived.Test.YtokplbfjpabolaaDoorHWorks
namespace Go.Proofs.YtokplbfjpabolaaDoor
open Go.RowKit

set_option maxHeartbeats 1000000 in
set_option maxRecDepth 100000 in
theorem parts_of (h k s g m n : Int) (b : Bool) (x : Value) (w : World) (hg : LaidAt w) (hx : ErrV x n)
    (HM : ∀ w, Calls Tryd.prog 13 #[.int .i64 h] w fun e w' => e = .returned (.tuple #[.int .i64 m, x]) ∧ w = w')
    (HR : ∀ w, Calls Tryd.prog 14 #[.int .i64 h] w fun e w' => e = .returned (.tuple #[.int .i64 m, .int .i64 n]) ∧ w = w')
    (HV : ∀ w, Calls Tryd.prog 15 #[.int .i64 h] w fun e w' => e = .returned (.bool b) ∧ w = w')
    (HW : ∀ w, Calls Tryd.prog 16 #[.int .i64 h] w fun e w' => e = .returned (.bool b) ∧ w = w')
    (HK : ∀ w, Calls Tryd.prog 17 #[.int .i64 h] w fun e w' => e = .returned (.int .i64 k) ∧ w = w')
    (HL : ∀ w, Calls Tryd.prog 18 #[.int .i64 h] w fun e w' => e = .returned (.int .i64 k) ∧ w = w')
    (HS : ∀ w, Calls Tryd.prog 19 #[.int .i64 h] w fun e w' => e = .returned (.int .i64 s) ∧ w = w')
    (HT : ∀ w, Calls Tryd.prog 20 #[.int .i64 h] w fun e w' => e = .returned (.int .i64 s) ∧ w = w')
    (HG : ∀ w, Calls Tryd.prog 21 #[.int .i64 h] w fun e w' => e = .returned (.int .i64 g) ∧ w = w')
    (HH : ∀ w, Calls Tryd.prog 22 #[.int .i64 h] w fun e w' => e = .returned (.int .i64 g) ∧ w = w') :
    Calls Tryd.prog 4 #[.int .i64 h] w fun e w' => e = .returned (.bool true) ∧ Below w.heap.size w w' := by
  have JM := Lib.hid HM
  have JR := Lib.hid HR
  have JV := Lib.hid HV
  have JW := Lib.hid HW
  have JK := Lib.hid HK
  have JL := Lib.hid HL
  have JS := Lib.hid HS
  have JT := Lib.hid HT
  have JA := Lib.hid HG
  have JB := Lib.hid HH
  have JG := Lib.hid hg
  have JX := Lib.hid (num_any x n hx)
  clear HM HR hg hx HV HW HK HL HS HT HG HH
  go_enter Tryd.func4, Tryd.ntmps4
  go_wp2_with fail
  refine (JM.out _).mono ?_
  rintro e w1 ⟨rfl, rfl⟩
  go_wp2_with fail
  refine (JR.out _).mono ?_
  rintro e w1 ⟨rfl, rfl⟩
  go_wp2_with fail
  refine (JV.out _).mono ?_
  rintro e w1 ⟨rfl, rfl⟩
  go_wp2_with fail
  refine (JW.out _).mono ?_
  rintro e w1 ⟨rfl, rfl⟩
  go_wp2_with fail
  refine (JK.out _).mono ?_
  rintro e w1 ⟨rfl, rfl⟩
  go_wp2_with fail
  refine (JL.out _).mono ?_
  rintro e w1 ⟨rfl, rfl⟩
  go_wp2_with fail
  refine (JS.out _).mono ?_
  rintro e w1 ⟨rfl, rfl⟩
  go_wp2_with fail
  refine (JT.out _).mono ?_
  rintro e w1 ⟨rfl, rfl⟩
  go_wp2_with fail
  refine (JA.out _).mono ?_
  rintro e w1 ⟨rfl, rfl⟩
  go_wp2_with fail
  refine (JB.out _).mono ?_
  rintro e w1 ⟨rfl, rfl⟩
  go_wp2_with fail
  refine (JX.out _).mono ?_
  rintro e w1 ⟨rfl, rfl⟩
  go_wp2_with fail
  refine (works_any _ JG.out).mono ?_
  rintro e w1 ⟨rfl, hb⟩
  go_wp2_with fail
  go_ret
  exact ⟨rfl, hb⟩

theorem parts_any (h : Int) (w : World) (hg : LaidAt w) :
    Calls Tryd.prog 4 #[.int .i64 h] w fun e w' => e = .returned (.bool true) ∧ Below w.heap.size w w' := by
  by_cases k : okH h
  · by_cases g : gOf h = 1023
    · exact parts_of h _ _ _ _ 30 true _ w hg (.inr rfl) (fun w => next_room h w k g) (fun w => rnext_room h w k g) (fun w => valid_ok h w k) (fun w => rvalid_ok h w k) (fun w => kind_ok h w k) (fun w => rkind_ok h w k) (fun w => slot_ok h w k) (fun w => rslot_ok h w k) (fun w => gen_ok h w k) (fun w => rgen_ok h w k)
    · have g' : gOf h < 1023 := by have := k.2.2.2.2.2; omega
      exact parts_of h _ _ _ _ 0 true _ w hg (.inl ⟨rfl, rfl⟩) (fun w => next_ok h w k g') (fun w => rnext_ok h w k g') (fun w => valid_ok h w k) (fun w => rvalid_ok h w k) (fun w => kind_ok h w k) (fun w => rkind_ok h w k) (fun w => slot_ok h w k) (fun w => rslot_ok h w k) (fun w => gen_ok h w k) (fun w => rgen_ok h w k)
  · exact parts_of h _ _ _ _ 20 false _ w hg (.inr rfl) (fun w => next_no h w k) (fun w => rnext_no h w k) (fun w => valid_no h w k) (fun w => rvalid_no h w k) (fun w => kind_no h w k) (fun w => rkind_no h w k) (fun w => slot_no h w k) (fun w => rslot_no h w k) (fun w => gen_no h w k) (fun w => rgen_no h w k)
end Go.Proofs.YtokplbfjpabolaaDoor
