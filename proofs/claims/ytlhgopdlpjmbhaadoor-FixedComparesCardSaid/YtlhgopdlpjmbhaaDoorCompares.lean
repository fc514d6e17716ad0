/- The walk of the law FixedCompares: it answers true for every two reservations; it writes nothing that was there; of the listed variable its one cell is asked. -/
import Derived.Test.YtlhgopdlpjmbhaaDoorMosts
namespace Go.Proofs.YtlhgopdlpjmbhaaDoor
open Go.RowKit

set_option maxHeartbeats 1000000 in
set_option maxRecDepth 100000 in
theorem compares_of (q p r s m n : Int) (x : Value) (w : World) (hg : LaidAt w) (hx : ErrV x n)
    (HM : ∀ w, Calls Tryd.prog 21 #[.agg #[.int .i64 q, .int .i64 p], .agg #[.int .i64 r, .int .i64 s]] w fun e w' => e = .returned (.tuple #[.int .i64 m, x]) ∧ Below w.heap.size w w')
    (HR : ∀ w, Calls Tryd.prog 22 #[.agg #[.int .i64 q, .int .i64 p], .agg #[.int .i64 r, .int .i64 s]] w fun e w' => e = .returned (.tuple #[.int .i64 m, .int .i64 n]) ∧ Below w.heap.size w w') :
    Calls Tryd.prog 6 #[.agg #[.int .i64 q, .int .i64 p], .agg #[.int .i64 r, .int .i64 s]] w fun e w' => e = .returned (.bool true) ∧ Below w.heap.size w w' := by
  have JM := Lib.hid HM
  have JR := Lib.hid HR
  have JG := Lib.hid hg
  have JX := Lib.hid hx
  clear HM HR hg hx
  have hb0 : Below w.heap.size w ((w.alloc (.cells #[.int .i64 q, .int .i64 p] 23)).alloc (.cells #[.int .i64 r, .int .i64 s] 23)) := ((Below.refl _ _).alloc (Nat.le_refl _) _).alloc (by simp) _
  go_enter Tryd.func6, Tryd.ntmps6
  go_wp2_with fail
  refine (JM.out _).mono ?_
  rintro e w1 ⟨rfl, hb1⟩
  obtain ⟨hc1, hf1⟩ := bcell hb1
  have y1 : w.heap.size + 1 < w1.heap.size := by have := hb1.size; simp at this; omega
  have y1' : w.heap.size < w1.heap.size := by omega
  go_wp2_with fail
  refine (JR.out _).mono ?_
  rintro e w2 ⟨rfl, hb2⟩
  go_wp2_with fail
  refine (num_any x n JX.out _ (JG.out.below (bnext (bnext hb0 hb1) hb2))).mono ?_
  rintro e w3 ⟨rfl, hb3⟩
  go_wp2_with fail
  refine (sure_any _).mono ?_
  rintro e w4 ⟨rfl, hb4⟩
  go_wp2_with fail
  go_ret
  exact ⟨rfl, bnext (bnext (bnext (bnext hb0 hb1) hb2) hb3) hb4⟩

theorem compares_any (q p r s : Int) (w : World) (hg : LaidAt w) :
    Calls Tryd.prog 6 #[.agg #[.int .i64 q, .int .i64 p], .agg #[.int .i64 r, .int .i64 s]] w fun e w' => e = .returned (.bool true) ∧ Below w.heap.size w w' := by
  by_cases h : okR q p ∧ okR r s
  · exact compares_of q p r s _ _ _ w hg (.inl ⟨rfl, rfl⟩) (fun w => compare_ok q p r s w h.1 h.2) (fun w => rcompare_ok q p r s w h.1 h.2)
  · exact compares_of q p r s _ _ _ w hg (.inr rfl) (fun w => compare_no q p r s w h) (fun w => rcompare_no q p r s w h)
end Go.Proofs.YtlhgopdlpjmbhaaDoor
