/- The law's own num: the number of an error that is an api.Errno, 0 of none. -/
import Derived.Test.YtdbfjcdglcagaaaDoorPAs
namespace Go.Proofs.YtdbfjcdglcagaaaDoor
open Go.RowKit

theorem num_nil (w : World) : Calls Tryd.prog 12 #[.nilIface] w fun e w' => e = .returned (.int .i64 0) ∧ Below w.heap.size w w' := by
  go_enter Tryd.func12, Tryd.ntmps12
  go_wp2
  go_ret
  exact ⟨rfl, (Below.refl _ _).alloc (Nat.le_refl _) _⟩

set_option maxHeartbeats 4000000 in
theorem num_errno (n : Int) (w : World) (hg : LaidAt w) : Calls Tryd.prog 12 #[.iface 75 (.int .i64 n)] w fun e w' => e = .returned (.int .i64 n) ∧ Below w.heap.size w w' := by
  have hlt := hg.pos
  have hb : Below w.heap.size w (w.alloc (.cells #[.int .i64 0] 75)) := (Below.refl _ _).alloc (Nat.le_refl _) _
  have hA := as_hit n ⟨w.heap.size, 0, none⟩ (.int .i64 0) (w.alloc (.cells #[.int .i64 0] 75)) (hg.below hb) (by simp) (by simp)
  have HA := Lib.hid hA
  clear hA hg
  go_enter Tryd.func12, Tryd.ntmps12
  go_wp2_with fail
  refine HA.out.mono ?_
  rintro e w1 ⟨rfl, rfl⟩
  go_wp2_with fail
  go_ret
  exact ⟨rfl, ((((((Below.refl w.heap.size w).alloc (Nat.le_refl _) _).alloc (by simp) _).alloc (by simp; omega) _).alloc (by simp; omega) _).alloc (by simp; omega) _)⟩
end Go.Proofs.YtdbfjcdglcagaaaDoor
