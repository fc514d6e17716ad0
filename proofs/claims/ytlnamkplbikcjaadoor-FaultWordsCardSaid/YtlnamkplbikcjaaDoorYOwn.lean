/- The deferred calls of recover where nothing panics; what an error of another kind says of itself (ownText); no condition. -/
import Derived.Test.YtlnamkplbikcjaaDoorYErr
import Derived.Defers
import Derived.Recover
namespace Go.Proofs.YtlnamkplbikcjaaDoor
open Go.RowKit Ft

theorem idle_own (w : World) : CallsD Tryd.prog 61 #[] .returning w fun e u' w' => e = .returned (.tuple #[]) ∧ u' = .returning ∧ w' = w := by
  refine callsD_of_wpS Tryd.func61 rfl fun c₀ cs hu => ?_
  first | apply wpS_seq | skip
  apply wpS_region
  simp [wpOpsS, go_sem, recoverD, hu, Tryd.ntmps61]
  cases c₀
  simp_all [bodyPostS, results, Tryd.results61]
theorem odd_text (s : ByteArray) (w : World) : Calls Tryd.prog 46 #[.agg #[.string s]] w fun e w' => e = .returned (.string s) ∧ Below w.heap.size w w' := by
  go_enter Tryd.func46, Tryd.ntmps46
  go_wp2_with fail
  go_ret
  exact ⟨rfl, (by repeat (first | exact Below.refl _ _ | (with_reducible assumption) | refine Below.drew ?_ | (refine Below.alloc ?_ (by first | exact Nat.le_refl _ | omega | (simp; done) | (simp; omega)) _) | (refine Below.setCell ?_ (by first | omega | (simp; done) | (simp; omega)) _)))⟩
theorem own_odd (s : ByteArray) (w : World) : Calls Tryd.prog 40 #[.iface 68 (.agg #[.string s])] w fun e w' => e = .returned (.string s) ∧ Below w.heap.size w w' := by
  have hm := me_odd s
  have HO := Lib.hid (odd_text s w)
  go_enter_defers Tryd.func40, Tryd.ntmps40
  go_wp2_with fail
  refine HO.out.mono ?_
  rintro e w1 ⟨rfl, hb⟩
  go_wp2_with fail
  refine leaves_cons (f := 61) (args := #[]) (by simp) (by simp [go_sem]) ?_
  refine (idle_own _).mono ?_
  rintro e u' w'' ⟨rfl, rfl, rfl⟩
  simp [Leaves, settle, results, Tryd.results40, go_sem]
  exact hb
end Go.Proofs.YtlnamkplbikcjaaDoor
