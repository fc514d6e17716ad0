/- The deferred calls of recover where nothing panics; what an error of another kind says of itself (ownText); no condition. -/
import Derived.Test.YtlnamkplbikcjaaGreatDoorYErr
import Derived.Defers
import Derived.Recover
namespace Go.Proofs.YtlnamkplbikcjaaGreatDoor
open Go.RowKit Ft

theorem idle_own (w : World) : CallsD Tryz.prog 46 #[] .returning w fun e u' w' => e = .returned (.tuple #[]) ∧ u' = .returning ∧ w' = w := by
  refine callsD_of_wpS Tryz.func46 rfl fun c₀ cs hu => ?_
  first | apply wpS_seq | skip
  apply wpS_region
  simp [wpOpsS, go_sem, recoverD, hu, Tryz.ntmps46]
  cases c₀
  simp_all [bodyPostS, results, Tryz.results46]
theorem odd_text (s : ByteArray) (w : World) : Calls Tryz.prog 28 #[.agg #[.string s]] w fun e w' => e = .returned (.string s) ∧ Below w.heap.size w w' := by
  go_enter Tryz.func28, Tryz.ntmps28
  go_wp2_with fail
  go_ret
  exact ⟨rfl, (by repeat (first | exact Below.refl _ _ | (with_reducible assumption) | refine Below.drew ?_ | (refine Below.alloc ?_ (by first | exact Nat.le_refl _ | omega | (simp; done) | (simp; omega)) _) | (refine Below.setCell ?_ (by first | omega | (simp; done) | (simp; omega)) _)))⟩
theorem own_odd (s : ByteArray) (w : World) : Calls Tryz.prog 30 #[.iface 57 (.agg #[.string s])] w fun e w' => e = .returned (.string s) ∧ Below w.heap.size w w' := by
  have hm := me_odd s
  have HO := Lib.hid (odd_text s w)
  go_enter_defers Tryz.func30, Tryz.ntmps30
  go_wp2_with fail
  refine HO.out.mono ?_
  rintro e w1 ⟨rfl, hb⟩
  go_wp2_with fail
  refine leaves_cons (f := 46) (args := #[]) (by simp) (by simp [go_sem]) ?_
  refine (idle_own _).mono ?_
  rintro e u' w'' ⟨rfl, rfl, rfl⟩
  simp [Leaves, settle, results, Tryz.results30, go_sem]
  exact hb
end Go.Proofs.YtlnamkplbikcjaaGreatDoor
