/- The program's Twin of a queue of numbers; no condition but those that each row names. -/
import Derived.Test.YtdpchojfgcjbeaaFClone
import Derived.Deep.RegionWith
import Derived.Deep.DeepCutAuto
namespace Go.Proofs.Ytdpchojfgcjbeaa
open Go.RowKit

def TwinPost_I (w : World) (A : Qu) (e : Ending) (w' : World) : Prop :=
  ∃ b s, e = .returned (.pointer (some ⟨b, 0, none⟩)) ∧ PQ QT_I ET_I 1 w.heap.size w' A b s ∧ Below w.heap.size w w'
set_option maxHeartbeats 1000000 in
set_option maxRecDepth 100000 in
theorem twin_I (B : Nat) (A : Qu) (hA : A.Good 1) (w : World) (b : Nat) (s : Value) (h : PQ QT_I ET_I 1 B w A b s) :
    Calls Try.prog 29 #[.pointer (some ⟨b, 0, none⟩)] w (TwinPost_I w A) := by
  have HC := fun w h => Lib.hid (clone_I w B A.l hA.wd hA.n4 s h)
  have HP := Lib.hid h
  have f0 := h.f0
  have f1 := h.f1
  have f2 := h.f2
  have hlt := h.lt
  clear h hA
  go_enter Try.func29, Try.ntmps29
  go_wp2_with fail
  go_upto_region 3 with fail
  go_cut [2] (fun v wx => Hid (TwinPost_I w A (.returned v) wx))
  case first =>
    go_region_with (go_at_call 52; refine (HC _ HP.out.drew.own).out.mono ?_; rintro e w2 ⟨p2, c2, rfl, ho, hb⟩; have hq := HP.out.drew.below hb; have g0 := hq.f0; have g1 := hq.f1; have g2 := hq.f2; have HQ := Lib.hid hq; clear hq; have HO := Lib.hid ho; have HB := Lib.hid hb; clear ho hb)
    all_goals go_wp2_with fail
    all_goals
      go_meet
      refine Lib.hid ⟨w2.heap.size, .slice p2 A.l.length c2, rfl, ⟨heap_alloc_new w2 _, HO.out.alloc _, ?_, ?_⟩, ?_⟩
      · exact (((Below.refl w.heap.size w).drew).trans HB.out).size
      · intro e
        have := (HO.out.lt _ e).2
        omega
      · exact (((Below.refl w.heap.size w).drew).trans HB.out).alloc ((((Below.refl w.heap.size w).drew).trans HB.out).size) _
  case rest =>
    go_wp2_with fail
    go_ret
    exact hcut.out
set_option maxHeartbeats 400000 in
theorem twin_nil_I (w : World) :
    Calls Try.prog 29 #[.pointer none] w fun e w' => e = .returned (.pointer none) ∧ w = w' := by
  go_enter Try.func29, Try.ntmps29
  go_wp2_with fail
  go_ret
  exact ⟨rfl, rfl⟩
end Go.Proofs.Ytdpchojfgcjbeaa
