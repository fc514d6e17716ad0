/- The program's New of a table: refused where the document refuses, else free slots of generation 1; no condition. -/
import Derived.Test.YtlcdbblbepndoaaDoorSRep
import Derived.Test.YtlcdbblbepndoaaDoorVAddP
namespace Go.Proofs.YtlcdbblbepndoaaDoor
open Go.RowKit

set_option maxHeartbeats 1000000 in
set_option maxRecDepth 100000 in
theorem pnew_no (kind many : Int) (w : World) (h : ¬ (1 ≤ kind ∧ kind ≤ 3 ∧ 1 ≤ many ∧ many ≤ 4096)) :
    Calls Tryd.prog 17 #[.int .i64 kind, .int .i64 many] w fun e w' => e = .returned (.tuple #[.pointer none, .iface 68 (.int .i64 1)]) ∧ w = w' := by
  by_cases h1 : many < 1
  · clear h
    go_enter Tryd.func17, Tryd.ntmps17
    go_wp2_with fail
    go_ret2
    exact ⟨rfl, rfl⟩
  · by_cases h2 : 4096 < many
    · clear h
      go_enter Tryd.func17, Tryd.ntmps17
      go_wp2_with fail
      go_ret2
      exact ⟨rfl, rfl⟩
    · have HM := Lib.hid (fun w => make_no kind 0 1 w (fun k => by unfold okP at k; omega))
      have h3 : 1 ≤ many := by omega
      have h4 : many ≤ 4096 := by omega
      clear h
      go_enter Tryd.func17, Tryd.ntmps17
      go_wp2_with fail
      refine (HM.out _).mono ?_
      rintro e w1 ⟨rfl, rfl⟩
      go_wp2_with fail
      go_ret2
      exact ⟨rfl, rfl⟩

theorem old1 (w : World) (T : TypeId) (b : Nat) (hb : b = w.heap.size) : (w.alloc (.cells #[.int .i64 1] T)).cell? ⟨b, 0, none⟩ = some (.int .i64 1) := by subst hb; simp
theorem old2 (w : World) (T : TypeId) (o : Obj) (b : Nat) (hb : b = w.heap.size) : ((w.alloc (.cells #[.int .i64 1] T)).alloc o).cell? ⟨b, 0, none⟩ = some (.int .i64 1) := by
  rw [World.cell?_alloc_lt _ _ ⟨b, 0, none⟩ (by simp [hb])]; exact old1 w T b hb
theorem old3 (w : World) (T : TypeId) (o o' : Obj) (b : Nat) (hb : b = w.heap.size) : (((w.alloc (.cells #[.int .i64 1] T)).alloc o).alloc o').cell? ⟨b, 0, none⟩ = some (.int .i64 1) := by
  rw [World.cell?_alloc_lt _ _ ⟨b, 0, none⟩ (by simp [hb]; omega)]; exact old2 w T o b hb
theorem pt_new {B : Nat} (W : World) (kind : Int) (n b r s2 s3 T : Nat) (hb : b = W.heap.size) (hB : B ≤ b) (h1 : W.ownsRow B 3 1 (.slice (some ⟨r, 0, none⟩) n n) n (ints (List.replicate n 1))) (h2 : W.ownsRow B 4 1 (.slice (some ⟨s2, 0, none⟩) n n) n (List.replicate n (.bool false)))
    (h3 : W.ownsRow B 33 1 (.slice (some ⟨s3, 0, none⟩) n n) n (List.replicate n (.int .i64 0))) (n12 : r ≠ s2) (n13 : r ≠ s3) (n23 : s2 ≠ s3) :
    PT B (W.alloc (.cells #[.int .i64 kind, .slice (some ⟨r, 0, none⟩) n n, .slice (some ⟨s2, 0, none⟩) n n, .slice (some ⟨s3, 0, none⟩) n n] T)) (Tab.new kind n) b r n s2 n s3 n := by
  subst hb
  have l1 := (h1.lt r rfl).2
  have l2 := (h2.lt s2 rfl).2
  have l3 := (h3.lt s3 rfl).2
  have hc : ∀ (cs : Array Value) j, (W.alloc (.cells cs T)).cell? ⟨W.heap.size, j, none⟩ = cs[j]? := fun cs j => cell_of_row _ _ j cs T (0, 0) (heap_alloc_new W _)
  have e1 : (Tab.new kind n).gens.length = n := by simp [Tab.new]
  have e2 : (Tab.new kind n).taken.length = n := by simp [Tab.new]
  have e3 : (Tab.new kind n).list.length = n := by simp [Tab.new]
  refine ⟨hc _ 0, by rw [e1]; exact hc _ 1, by rw [e2]; exact hc _ 2, by rw [e3]; exact hc _ 3, ⟨?_, ?_, ?_, n12, n13, n23⟩, hB, by omega, by omega, by omega⟩
  · rw [e1]; exact h1.alloc _
  · rw [e2]
    have : bools (Tab.new kind n).taken = List.replicate n (.bool false) := by simp [bools, Tab.new]
    rw [this]; exact h2.alloc _
  · rw [e3]
    have : ints (Tab.new kind n).list = List.replicate n (.int .i64 0) := by simp [ints, Tab.new]
    rw [this]; exact h3.alloc _

set_option maxHeartbeats 4000000 in
set_option maxRecDepth 100000 in
theorem pnew_ok (kind : Int) (n : Nat) (w : World) (k1 : 1 ≤ kind) (k3 : kind ≤ 3) (h1 : 1 ≤ n) (h2 : n ≤ 4096) :
    Calls Tryd.prog 17 #[.int .i64 kind, .int .i64 n] w fun e w' => ∃ S v, e = .returned (.tuple #[v, .nilIface]) ∧ PTab S w.heap.size w' (Tab.new kind n) v ∧ Below w.heap.size w w' := by
  have HM := Lib.hid (fun w => make_ok kind 0 1 w ⟨k1, k3, by omega, by omega, by omega, by omega⟩)
  have hmk2 := fun w => run_make_row' (P := Tryd.prog) 26 4 (.bool false) 1 Tryd.underlying26 Tryd.info4 rfl .i64 .i64 n (by omega) (by omega) w
  have hmk3 := fun w => run_make_row' (P := Tryd.prog) 43 33 (.int .i64 0) 8 Tryd.underlying43 Tryd.info33 rfl .i64 .i64 n (by omega) (by omega) w
  have HR := Lib.hid (fun w g c hg => repeat_ones w g c hg n h1 h2)
  have z1 : (1 : Int) ≤ (n : Int) := by omega
  have z2 : (n : Int) ≤ 4096 := by omega
  go_enter Tryd.func17, Tryd.ntmps17
  go_wp2_with fail
  refine (HM.out _).mono ?_
  rintro e w1 ⟨rfl, rfl⟩
  go_wp2_with fail
  go_cut [4, 5] (fun s4 s5 wx => ∃ b g1 c1 g2 c2 g3 c3, s4 = .pointer (some ⟨b, 0, none⟩) ∧ s5 = .nilIface ∧ Hid (PT w.heap.size wx (Tab.new kind n) b g1 c1 g2 c2 g3 c3) ∧ Below w.heap.size w wx)
  case first =>
    go_region_held3 (fun _ => True) (trivial) (first | (go_at_call 42; refine (HR.out _ _ _ (by first | (simp; done) | (simp only [World.cell?_drew]; first | (exact old1 _ _ _ (by first | rfl | (simp; done))) | (exact old2 _ _ _ _ (by first | rfl | (simp; done))) | (exact old3 _ _ _ _ _ (by first | rfl | (simp; done)))))).mono ?_; rintro e w1 ⟨r, rfl, hr, hb⟩))
    all_goals
      go_wp2_with fail
      go_meet
      have hr' := own_base (B' := w.heap.size) hr (by first | (simp; done) | (simp; omega))
      have hl := hr.lt r rfl
      have hz := hb.size
      simp at hl hz
    all_goals
      refine ⟨_, _, _, _, _, _, _, rfl, rfl, Lib.hid (pt_new _ kind n _ _ _ _ _ (by first | rfl | (simp; done)) (by omega) ?_ ?_ ?_ (by omega) (by omega) (by omega)), ?_⟩
      · repeat (first | exact hr' | refine World.ownsRow.alloc ?_ _)
      · repeat (first | exact own_made _ _ _ _ _ (by simp) (by omega) h2 | refine World.ownsRow.alloc ?_ _ | refine own_below ?_ hb | refine own_drew ?_)
      · repeat (first | exact own_made _ _ _ _ _ (by simp) (by omega) h2 | refine World.ownsRow.alloc ?_ _ | refine own_below ?_ hb | refine own_drew ?_)
      · repeat (first | exact Below.refl _ _ | refine below_alloc ?_ _ | refine bnext ?_ hb | refine below_drew ?_)
  case rest =>
    obtain ⟨b, g1, c1, g2, c2, g3, c3, rfl, rfl, K, hb⟩ := hcut
    go_wp2_with fail
    go_ret2
    exact ⟨_, _, rfl, ⟨b, g1, c1, g2, c2, g3, c3, rfl, K.out, rfl⟩, hb⟩
end Go.Proofs.YtlcdbblbepndoaaDoor
