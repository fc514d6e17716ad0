/- The program's book: Clone; no condition but those that each row names. -/
import Derived.Test.YtdbfjcdglcagaaaDoorPProg
import Derived.Test.YtdbfjcdglcagaaaDoorMShelf
namespace Go.Proofs.YtdbfjcdglcagaaaDoor
open Go.RowKit Go.Maps Bk

set_option maxHeartbeats 1000000 in
theorem pclone (w : World) (b mb : Nat) (L : List Ln) (h : PBk w b mb L) :
    Calls Tryd.prog 18 #[.pointer (some ⟨b, 0, none⟩)] w fun e w' => e = .returned (.pointer (some ⟨w.heap.size + 1, 0, none⟩)) ∧ PBk w' (w.heap.size + 1) w.heap.size L ∧ Below w.heap.size w w' := by
  obtain ⟨es, clock, hb⟩ := h.map.shape
  have HC := Lib.hid (AnyW.maps_Clone Tryd.cloneM mb es clock w hb)
  have hw := has_cell h.blk 0
  simp only [List.getElem?_toArray, List.getElem?_cons_zero] at hw
  have HM := Lib.hid (h.map.copy (w' := w.alloc (.map es clock)) (b' := w.heap.size) ((MapKept.heap_alloc w _).1.trans hb.symm))
  clear h hb
  go_enter Tryd.func18, Tryd.ntmps18
  go_wp2_with fail
  refine HC.out.mono ?_
  rintro e w1 ⟨rfl, rfl⟩
  go_wp2_with fail
  go_ret
  refine ⟨by simp, ⟨has_new _ _ _ (by simp), HM.out.below ((Below.refl _ _).alloc (Nat.le_refl _) _)⟩, (by repeat (first | exact Below.refl _ _ | (with_reducible assumption) | refine Below.drew ?_ | (refine Below.alloc ?_ (by first | exact Nat.le_refl _ | omega | (simp; done) | (simp; omega)) _) | (refine Below.setCell ?_ (by first | omega | (simp; done) | (simp; omega)) _)))⟩
end Go.Proofs.YtdbfjcdglcagaaaDoor
