/- The document's own task: Twin, Drop, Push; no condition but those that each row names. -/
import Derived.Test.YtpfhebfkhailfaaDoorQRefA
import Derived.Test.YtpfhebfkhailfaaDoorQApp
namespace Go.Proofs.YtpfhebfkhailfaaDoor
open Go.RowKit Tsk

/-- What is answered: a task with jobs of its own. -/
def TaskO (w : World) (p : Int) (n : Nat) (f : Nat → Jb) (k : Ac) (x : Value) (w' : World) : Prop := ∃ s cap, x = tV p (.slice s n cap) k ∧ JobsO w.heap.size w' (.slice s n cap) n f ∧ Below w.heap.size w w'
theorem own_low {B e z n : Nat} {w : World} {v : Value} {xs : List Value} (h : w.ownsRow B e z v n xs) (p : Addr) (u : Value) (hp : p.block < B) : (w.setCell p u).ownsRow B e z v n xs :=
  World.ownsRow.kept (row := some p.block) h (grown_set w p u) (.inr fun e => by have := (World.ownsRow.lt h _ e).1; omega)
theorem below_low {B : Nat} {w a : World} (h : Below B w a) (p : Addr) (u : Value) (hp : B ≤ p.block) : Below B w (a.setCell p u) := h.setCell hp u
set_option maxHeartbeats 1000000 in
theorem rtwin (p : Int) (s : Value) (n : Nat) (f : Nat → Jb) (k : Ac) (w : World) (h : Jobs w s n f) (hn : n * 32 ≤ 140737488355328) : Calls Tryd.prog 20 #[tV p s k] w fun e w' => ∃ x, e = .returned x ∧ TaskO w p n f k x w' := by
  have HJ := Lib.hid h
  obtain ⟨q, cap, rfl, _, _⟩ := h
  obtain ⟨kg, ko, kn, kd, kc, kt⟩ := k
  obtain ⟨WA, hWA⟩ : ∃ WA, WA = (w.alloc (.cells #[.int .i64 p, .slice q n cap, .int .i64 kg, .int .i64 ko, .int .i64 kn, .int .i64 kd, .int .i64 kc, .int .i64 kt] KT)).alloc (.cells #[.int .i64 0, .slice none 0 0, .int .i64 0, .int .i64 0, .int .i64 0, .int .i64 0, .int .i64 0, .int .i64 0] KT) := ⟨_, rfl⟩
  have HB := Lib.hid (show Below w.heap.size w WA from by rw [hWA]; exact ((Below.refl _ _).alloc (Nat.le_refl _) _).alloc (by simp) _)
  have HT := Lib.hid (show HasT WA w.heap.size p (.slice q n cap) ⟨kg, ko, kn, kd, kc, kt⟩ ∧ HasT WA (w.heap.size + 1) 0 (.slice none 0 0) ⟨0, 0, 0, 0, 0, 0⟩ ∧ WA.heap.size = w.heap.size + 2 from by
    rw [hWA]
    exact ⟨has_old (has_new w _ _ rfl) _, has_new _ _ _ (by simp), by simp⟩)
  have HW := Lib.hid hWA
  clear hWA
  go_enter Tryd.func20, Tryd.ntmps20
  go_upto_region 1 with fail
  rw [← HW.out]
  have x1 := HT.out.1.cells.2.1
  go_wp2_with (at_builtin; refine wpList_append_jobs rfl _ _ rfl (w.heap.size + 2) (.slice none 0 0) 0 [] rfl (World.ownsRow_nil _ _ _ _) _ n (jbL f n) rfl (src_jobs (HJ.out.below HB.out)) (jbL_one _ _) (by omega) (by have := HT.out.2.2; omega) ?_)
  intro p2 c2 w3 ho3 hg3 ha3
  have hb3 : Below WA.heap.size WA w3 := below_of_grown hg3
  have HO3 := Lib.hid (show JobsO (w.heap.size + 2) w3 (.slice p2 n c2) n f from by
    try rw [Nat.zero_add] at ho3
    exact ho3)
  have HB3 := Lib.hid (bnext HB.out hb3)
  have HT3 := Lib.hid (show HasT w3 w.heap.size p (.slice q n cap) ⟨kg, ko, kn, kd, kc, kt⟩ ∧ HasT w3 (w.heap.size + 1) 0 (.slice none 0 0) ⟨0, 0, 0, 0, 0, 0⟩ from ⟨HT.out.1.below hb3, HT.out.2.1.below hb3⟩)
  clear x1
  obtain ⟨x0, x1, x2, x3, x4, x5, x6, x7⟩ := HT3.out.1.cells
  obtain ⟨y0, y1, y2, y3, y4, y5, y6, y7⟩ := HT3.out.2.cells
  have f0 : ∀ j, w3.frozen? ⟨w.heap.size, j, none⟩ = false := fun j => has_free HT3.out.1 j
  have f1 : ∀ j, w3.frozen? ⟨w.heap.size + 1, j, none⟩ = false := fun j => has_free HT3.out.2 j
  clear ho3 hg3 ha3 hb3
  go_wp2_with fail
  refine bodyPost_ret (v := tV p (.slice p2 n c2) ⟨kg, ko, kn, kd, kc, kt⟩) (by simp [results, Tryd.results20, go_sem, y0, y1, y2, y3, y4, y5, y6, y7]) rfl ⟨_, rfl, p2, c2, rfl, ?_, ?_⟩
  · refine own_base2 (B := w.heap.size + 2) ?_ (by omega)
    repeat (first | (with_reducible exact HO3.out) | refine own_low ?_ _ _ (by simp))
  · repeat (first | (with_reducible exact HB3.out) | refine below_low ?_ _ _ (by simp))
end Go.Proofs.YtpfhebfkhailfaaDoor
