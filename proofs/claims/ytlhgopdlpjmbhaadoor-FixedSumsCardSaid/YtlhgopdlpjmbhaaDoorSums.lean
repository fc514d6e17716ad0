/- The walk of the law FixedSums: it answers true at every slice of numbers that was there; it writes nothing that was there; of the listed variable its one cell is asked. -/
import Derived.Test.YtlhgopdlpjmbhaaDoorMosts
import Derived.Test.YtlhgopdlpjmbhaaDoorSum
namespace Go.Proofs.YtlhgopdlpjmbhaaDoor
open Go.RowKit

theorem errV_is (n : Int) : ErrV (errV n) n := by
  by_cases h : n = 0
  · subst h; exact .inl ⟨rfl, rfl⟩
  · exact .inr (errV_pos h)

set_option maxHeartbeats 1000000 in
set_option maxRecDepth 100000 in
theorem sums_any (v : Value) (zs : List Int) (m : Int) (w : World) (h : Ints w v zs) (hg : LaidAt w) :
    Calls Tryd.prog 4 #[v, .int .i64 m] w fun e w' => e = .returned (.bool true) ∧ Below w.heap.size w w' := by
  have H1 := Lib.hid (sum_ints w v zs h)
  have H2 := Lib.hid (rsum_ints w v zs h)
  have H3 := Lib.hid (fits_ints w v zs m h)
  have H4 := Lib.hid (rfits_ints w v zs m h)
  have JG := Lib.hid hg
  clear h hg
  go_enter Tryd.func4, Tryd.ntmps4
  go_wp2_with fail
  refine H1.out.mono ?_
  rintro e w' ⟨rfl, rfl⟩
  go_wp2_with fail
  refine H2.out.mono ?_
  rintro e w' ⟨rfl, rfl⟩
  go_wp2_with fail
  refine H3.out.mono ?_
  rintro e w' ⟨rfl, rfl⟩
  go_wp2_with fail
  refine H4.out.mono ?_
  rintro e w' ⟨rfl, rfl⟩
  go_wp2_with fail
  refine (num_any _ _ (errV_is _) _ JG.out).mono ?_
  rintro e w1 ⟨rfl, hb1⟩
  go_wp2_with fail
  refine (num_any _ _ (errV_is _) _ (JG.out.below hb1)).mono ?_
  rintro e w2 ⟨rfl, hb2⟩
  go_wp2_with fail
  refine (sure_any _).mono ?_
  rintro e w3 ⟨rfl, hb3⟩
  go_wp2_with fail
  go_ret
  exact ⟨rfl, bnext (bnext hb1 hb2) hb3⟩
end Go.Proofs.YtlhgopdlpjmbhaaDoor
