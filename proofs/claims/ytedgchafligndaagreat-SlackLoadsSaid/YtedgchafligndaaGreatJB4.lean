/- Texts of stages 3, 4, 12, 13 and 14 that stand together: QRefC QSt QRefD UVal UValid; no condition but those that each row names. -/
import Derived.Test.YtedgchafligndaaGreatJB3
import Derived.Deep.CutBlock
import Derived.Deep.CutRange
import Derived.Deep.DeepCutAuto
/- The document's own task: Drop, Push; no condition but those that each row names. -/
namespace Go.Proofs.YtedgchafligndaaGreat
open Go.RowKit Tsk

/-- A job's block. -/
def HasJ (W : World) (g : Nat) (j : Jb) : Prop := Has W g (.cells #[.int .i64 j.l, .int .i64 j.c, .int .i64 j.a, .int .i64 j.d] JT (0, 0))
theorem HasJ.below {W W' : World} {g : Nat} {j : Jb} (h : HasJ W g j) (hb : Below W.heap.size W W') : HasJ W' g j := (hb.block g (has_lt h)).trans h
theorem HasJ.cells {W : World} {g : Nat} {j : Jb} (h : HasJ W g j) : W.cell? ⟨g, 0, none⟩ = some (.int .i64 j.l) ∧ W.cell? ⟨g, 1, none⟩ = some (.int .i64 j.c) ∧ W.cell? ⟨g, 2, none⟩ = some (.int .i64 j.a) ∧ W.cell? ⟨g, 3, none⟩ = some (.int .i64 j.d) :=
  ⟨(has_cell h 0).trans rfl, (has_cell h 1).trans rfl, (has_cell h 2).trans rfl, (has_cell h 3).trans rfl⟩
abbrev kZ : Ac := ⟨0, 0, 0, 0, 0, 0⟩
abbrev zT : Value := tV 0 (.slice none 0 0) kZ
/-- A store into a block that is known whole. -/
theorem has_set {W : World} {g : Nat} {cs : Array Value} {T : TypeId} (h : Has W g (.cells cs T (0, 0))) (j : Nat) (u : Value) : Has (W.setCell ⟨g, j, none⟩ u) g (.cells (cs.setIfInBounds j u) T (0, 0)) := heap_setCell_same W g j cs T u h
theorem has_other {W : World} {g : Nat} {o : Obj} (h : Has W g o) (p : Addr) (u : Value) (hp : p.block ≠ g) : Has (W.setCell p u) g o := (Below.heap_setCell W p u g (fun e => hp e.symm)).trans h
theorem arr8 (u0 u1 u2 u3 u4 u5 u6 u7 v0 v1 v2 v3 v4 v5 v6 v7 : Value) : (((((((#[u0, u1, u2, u3, u4, u5, u6, u7].setIfInBounds 0 v0).setIfInBounds 1 v1).setIfInBounds 2 v2).setIfInBounds 3 v3).setIfInBounds 4 v4).setIfInBounds 5 v5).setIfInBounds 6 v6).setIfInBounds 7 v7 = #[v0, v1, v2, v3, v4, v5, v6, v7] := by
  rw [← Array.toList_inj]
  simp only [Array.toList_setIfInBounds]
  rfl
theorem HasT.set8 {W : World} {g : Nat} {p p' : Int} {s s' : Value} {k k' : Ac} (h : HasT W g p s k) :
    HasT ((((((((W.setCell ⟨g, 0, none⟩ (.int .i64 p')).setCell ⟨g, 1, none⟩ s').setCell ⟨g, 2, none⟩ (.int .i64 k'.g)).setCell ⟨g, 3, none⟩ (.int .i64 k'.o)).setCell ⟨g, 4, none⟩ (.int .i64 k'.n)).setCell ⟨g, 5, none⟩ (.int .i64 k'.d)).setCell ⟨g, 6, none⟩ (.int .i64 k'.c)).setCell ⟨g, 7, none⟩ (.int .i64 k'.t)) g p' s' k' := by
  unfold HasT at h
  have a0 := has_set h 0 (.int .i64 p')
  have a1 := has_set a0 1 s'
  have a2 := has_set a1 2 (.int .i64 k'.g)
  have a3 := has_set a2 3 (.int .i64 k'.o)
  have a4 := has_set a3 4 (.int .i64 k'.n)
  have a5 := has_set a4 5 (.int .i64 k'.d)
  have a6 := has_set a5 6 (.int .i64 k'.c)
  have a7 := has_set a6 7 (.int .i64 k'.t)
  clear h a0 a1 a2 a3 a4 a5 a6
  rw [arr8] at a7
  exact a7
/-- The task is a twin of its own, in its block. -/
def Pushed (w : World) (p : Int) (n : Nat) (f : Nat → Jb) (k : Ac) (j : Jb) (wx : World) : Prop := ∃ s4 c4, HasT wx w.heap.size p (.slice s4 n c4) k ∧ HasJ wx (w.heap.size + 1) j ∧ HasT wx (w.heap.size + 1 + 1) 0 (.slice none 0 0) kZ ∧ JobsO (w.heap.size + 3) wx (.slice s4 n c4) n f ∧ Below w.heap.size w wx
theorem Pushed.made {w w4 : World} {p : Int} {n : Nat} {f : Nat → Jb} {k : Ac} {j : Jb} {s : Value} {s4 : Option Addr} {c4 : Nat} (h1 : HasT w4 w.heap.size p s k) (h2 : HasJ w4 (w.heap.size + 1) j) (h3 : HasT w4 (w.heap.size + 1 + 1) 0 (.slice none 0 0) kZ) (h4 : JobsO (w.heap.size + 3) w4 (.slice s4 n c4) n f) (h5 : Below w.heap.size w w4) :
    Pushed w p n f k j ((((((((w4.setCell ⟨w.heap.size, 0, none⟩ (.int .i64 p)).setCell ⟨w.heap.size, 1, none⟩ (.slice s4 n c4)).setCell ⟨w.heap.size, 2, none⟩ (.int .i64 k.g)).setCell ⟨w.heap.size, 3, none⟩ (.int .i64 k.o)).setCell ⟨w.heap.size, 4, none⟩ (.int .i64 k.n)).setCell ⟨w.heap.size, 5, none⟩ (.int .i64 k.d)).setCell ⟨w.heap.size, 6, none⟩ (.int .i64 k.c)).setCell ⟨w.heap.size, 7, none⟩ (.int .i64 k.t)) := by
  refine ⟨s4, c4, HasT.set8 h1, ?_, ?_, ?_, ?_⟩
  · unfold HasJ
    iterate 8 refine has_other ?_ _ _ (by show w.heap.size ≠ w.heap.size + 1; omega)
    exact h2
  · unfold HasT
    iterate 8 refine has_other ?_ _ _ (by show w.heap.size ≠ w.heap.size + 1 + 1; omega)
    exact h3
  · iterate 8 refine own_low ?_ _ _ (by show w.heap.size < w.heap.size + 3; omega)
    exact h4
  · iterate 8 refine below_low ?_ _ _ (Nat.le_refl _)
    exact h5
/-- The error of a push. -/
def pushE (p : Int) (n : Nat) (f : Nat → Jb) (k : Ac) (j : Jb) (now : Int) : Int :=
  if ¬ okT p n f k then 270 else if ¬ (0 ≤ now ∧ now ≤ 1073741824) then 1 else if ¬ okJ ⟨j.l, j.c, now, j.d⟩ then 2 else if 8 ≤ n then 40 else 0
set_option maxHeartbeats 2000000 in
theorem rpush_state (p : Int) (s : Value) (n : Nat) (f : Nat → Jb) (k : Ac) (j : Jb) (now : Int) (w : World) (h : Jobs w s n f) (hv : ¬ okT p n f k) :
    Calls Tryz.prog 71 #[tV p s k, jV j, .int .i64 now] w fun e w' => e = .returned (.tuple #[zT, .int .i64 270]) ∧ Below w.heap.size w w' := by
  have HV := Lib.hid (fun w (h : Jobs w s n f) => rvalid p s n f k w h)
  rw [ok_no hv] at HV
  clear hv
  have HJ := Lib.hid h
  obtain ⟨q, cap, rfl, _, _⟩ := h
  obtain ⟨kg, ko, kn, kd, kc, kt⟩ := k
  obtain ⟨l, c, a, d⟩ := j
  obtain ⟨WA, hWA⟩ : ∃ WA, WA = ((w.alloc (.cells #[.int .i64 p, .slice q n cap, .int .i64 kg, .int .i64 ko, .int .i64 kn, .int .i64 kd, .int .i64 kc, .int .i64 kt] KT)).alloc (.cells #[.int .i64 l, .int .i64 c, .int .i64 now, .int .i64 d] JT)).alloc (.cells #[.int .i64 0, .slice none 0 0, .int .i64 0, .int .i64 0, .int .i64 0, .int .i64 0, .int .i64 0, .int .i64 0] KT) := ⟨_, rfl⟩
  have HB := Lib.hid (show Below w.heap.size w WA from by rw [hWA]; exact (((Below.refl _ _).alloc (Nat.le_refl _) _).alloc (by simp) _).alloc (by simp; omega) _)
  have HA := Lib.hid (show HasT WA w.heap.size p (.slice q n cap) ⟨kg, ko, kn, kd, kc, kt⟩ ∧ HasJ WA (w.heap.size + 1) ⟨l, c, now, d⟩ ∧ HasT WA (w.heap.size + 1 + 1) 0 (.slice none 0 0) kZ ∧ WA.heap.size = w.heap.size + 3 from by
    rw [hWA]
    exact ⟨has_old (has_old (has_new w _ _ rfl) _) _, has_old (has_new _ _ _ (by simp)) _, has_new _ _ _ (by simp), by simp⟩)
  have HW := Lib.hid hWA
  clear hWA
  go_enter Tryz.func71, Tryz.ntmps71
  go_wp2_with fail
  rw [← HW.out]
  refine (HV.out _ (HJ.out.below HB.out)).mono ?_
  rintro e w1 ⟨rfl, hb1⟩
  have HB1 := Lib.hid (bnext HB.out hb1)
  have HC1 := Lib.hid hb1
  obtain ⟨x0, x1, x2, x3, x4, x5, x6, x7⟩ := (HA.out.1.below hb1).cells
  obtain ⟨j0, j1, j2, j3⟩ := (HA.out.2.1.below hb1).cells
  obtain ⟨y0, y1, y2, y3, y4, y5, y6, y7⟩ := (HA.out.2.2.1.below hb1).cells
  have f1 : ∀ j, w1.frozen? ⟨w.heap.size + 1 + 1, j, none⟩ = false := fun j => has_free (HA.out.2.2.1.below hb1) j
  clear hb1
  go_wp2_with fail
  refine bodyPost_ret (v := .tuple #[zT, .int .i64 270]) (by simp [results, Tryz.results71, go_sem, y0, y1, y2, y3, y4, y5, y6, y7]) rfl ⟨rfl, ?_⟩
  repeat (first | (with_reducible exact HB1.out) | refine below_low ?_ _ _ (by first | (simp; done) | (simp; omega)))
set_option maxHeartbeats 2000000 in
theorem rpush_arg (p : Int) (s : Value) (n : Nat) (f : Nat → Jb) (k : Ac) (j : Jb) (now : Int) (w : World) (h : Jobs w s n f) (hv : okT p n f k) (hn : ¬ (0 ≤ now ∧ now ≤ 1073741824)) :
    Calls Tryz.prog 71 #[tV p s k, jV j, .int .i64 now] w fun e w' => e = .returned (.tuple #[zT, .int .i64 1]) ∧ Below w.heap.size w w' := by
  have HV := Lib.hid (fun w (h : Jobs w s n f) => rvalid p s n f k w h)
  rw [ok_yes hv] at HV
  clear hv
  have HJ := Lib.hid h
  obtain ⟨q, cap, rfl, _, _⟩ := h
  obtain ⟨kg, ko, kn, kd, kc, kt⟩ := k
  obtain ⟨l, c, a, d⟩ := j
  obtain ⟨WA, hWA⟩ : ∃ WA, WA = ((w.alloc (.cells #[.int .i64 p, .slice q n cap, .int .i64 kg, .int .i64 ko, .int .i64 kn, .int .i64 kd, .int .i64 kc, .int .i64 kt] KT)).alloc (.cells #[.int .i64 l, .int .i64 c, .int .i64 now, .int .i64 d] JT)).alloc (.cells #[.int .i64 0, .slice none 0 0, .int .i64 0, .int .i64 0, .int .i64 0, .int .i64 0, .int .i64 0, .int .i64 0] KT) := ⟨_, rfl⟩
  have HB := Lib.hid (show Below w.heap.size w WA from by rw [hWA]; exact (((Below.refl _ _).alloc (Nat.le_refl _) _).alloc (by simp) _).alloc (by simp; omega) _)
  have HA := Lib.hid (show HasT WA w.heap.size p (.slice q n cap) ⟨kg, ko, kn, kd, kc, kt⟩ ∧ HasJ WA (w.heap.size + 1) ⟨l, c, now, d⟩ ∧ HasT WA (w.heap.size + 1 + 1) 0 (.slice none 0 0) kZ ∧ WA.heap.size = w.heap.size + 3 from by
    rw [hWA]
    exact ⟨has_old (has_old (has_new w _ _ rfl) _) _, has_old (has_new _ _ _ (by simp)) _, has_new _ _ _ (by simp), by simp⟩)
  have HW := Lib.hid hWA
  clear hWA
  go_enter Tryz.func71, Tryz.ntmps71
  go_wp2_with fail
  rw [← HW.out]
  refine (HV.out _ (HJ.out.below HB.out)).mono ?_
  rintro e w1 ⟨rfl, hb1⟩
  have HB1 := Lib.hid (bnext HB.out hb1)
  have HC1 := Lib.hid hb1
  obtain ⟨x0, x1, x2, x3, x4, x5, x6, x7⟩ := (HA.out.1.below hb1).cells
  obtain ⟨j0, j1, j2, j3⟩ := (HA.out.2.1.below hb1).cells
  obtain ⟨y0, y1, y2, y3, y4, y5, y6, y7⟩ := (HA.out.2.2.1.below hb1).cells
  have f1 : ∀ j, w1.frozen? ⟨w.heap.size + 1 + 1, j, none⟩ = false := fun j => has_free (HA.out.2.2.1.below hb1) j
  clear hb1
  go_wp2_with fail
  refine (rwithin _ _ _).mono ?_
  rintro e w2 ⟨rfl, rfl⟩
  rw [decide_eq_false hn]
  go_wp2_with fail
  refine bodyPost_ret (v := .tuple #[zT, .int .i64 1]) (by simp [results, Tryz.results71, go_sem, y0, y1, y2, y3, y4, y5, y6, y7]) rfl ⟨rfl, ?_⟩
  repeat (first | (with_reducible exact HB1.out) | refine below_low ?_ _ _ (by first | (simp; done) | (simp; omega)))
set_option maxHeartbeats 2000000 in
theorem rpush_range (p : Int) (s : Value) (n : Nat) (f : Nat → Jb) (k : Ac) (j : Jb) (now : Int) (w : World) (h : Jobs w s n f) (hv : okT p n f k) (hn : 0 ≤ now ∧ now ≤ 1073741824) (hj : ¬ okJ ⟨j.l, j.c, now, j.d⟩) :
    Calls Tryz.prog 71 #[tV p s k, jV j, .int .i64 now] w fun e w' => e = .returned (.tuple #[zT, .int .i64 2]) ∧ Below w.heap.size w w' := by
  have HV := Lib.hid (fun w (h : Jobs w s n f) => rvalid p s n f k w h)
  rw [ok_yes hv] at HV
  have HRJ := Lib.hid (rjob ⟨j.l, j.c, now, j.d⟩)
  rw [decide_eq_false hj] at HRJ
  clear hv hj
  have HJ := Lib.hid h
  obtain ⟨q, cap, rfl, _, _⟩ := h
  obtain ⟨kg, ko, kn, kd, kc, kt⟩ := k
  obtain ⟨l, c, a, d⟩ := j
  obtain ⟨WA, hWA⟩ : ∃ WA, WA = ((w.alloc (.cells #[.int .i64 p, .slice q n cap, .int .i64 kg, .int .i64 ko, .int .i64 kn, .int .i64 kd, .int .i64 kc, .int .i64 kt] KT)).alloc (.cells #[.int .i64 l, .int .i64 c, .int .i64 now, .int .i64 d] JT)).alloc (.cells #[.int .i64 0, .slice none 0 0, .int .i64 0, .int .i64 0, .int .i64 0, .int .i64 0, .int .i64 0, .int .i64 0] KT) := ⟨_, rfl⟩
  have HB := Lib.hid (show Below w.heap.size w WA from by rw [hWA]; exact (((Below.refl _ _).alloc (Nat.le_refl _) _).alloc (by simp) _).alloc (by simp; omega) _)
  have HA := Lib.hid (show HasT WA w.heap.size p (.slice q n cap) ⟨kg, ko, kn, kd, kc, kt⟩ ∧ HasJ WA (w.heap.size + 1) ⟨l, c, now, d⟩ ∧ HasT WA (w.heap.size + 1 + 1) 0 (.slice none 0 0) kZ ∧ WA.heap.size = w.heap.size + 3 from by
    rw [hWA]
    exact ⟨has_old (has_old (has_new w _ _ rfl) _) _, has_old (has_new _ _ _ (by simp)) _, has_new _ _ _ (by simp), by simp⟩)
  have HW := Lib.hid hWA
  clear hWA
  go_enter Tryz.func71, Tryz.ntmps71
  go_wp2_with fail
  rw [← HW.out]
  refine (HV.out _ (HJ.out.below HB.out)).mono ?_
  rintro e w1 ⟨rfl, hb1⟩
  have HB1 := Lib.hid (bnext HB.out hb1)
  have HC1 := Lib.hid hb1
  obtain ⟨x0, x1, x2, x3, x4, x5, x6, x7⟩ := (HA.out.1.below hb1).cells
  obtain ⟨j0, j1, j2, j3⟩ := (HA.out.2.1.below hb1).cells
  obtain ⟨y0, y1, y2, y3, y4, y5, y6, y7⟩ := (HA.out.2.2.1.below hb1).cells
  have f1 : ∀ j, w1.frozen? ⟨w.heap.size + 1 + 1, j, none⟩ = false := fun j => has_free (HA.out.2.2.1.below hb1) j
  clear hb1
  go_wp2_with fail
  refine (rwithin _ _ _).mono ?_
  rintro e w2 ⟨rfl, rfl⟩
  rw [decide_eq_true hn]
  go_wp2_with fail
  refine (HRJ.out _).mono ?_
  rintro e w3 ⟨rfl, hb3⟩
  have HB3 := Lib.hid (bnext HB1.out hb3)
  have hc3 := bnext HC1.out hb3
  clear x0 x1 x2 x3 x4 x5 x6 x7 j0 j1 j2 j3 y0 y1 y2 y3 y4 y5 y6 y7 f1
  obtain ⟨x0, x1, x2, x3, x4, x5, x6, x7⟩ := (HA.out.1.below hc3).cells
  obtain ⟨j0, j1, j2, j3⟩ := (HA.out.2.1.below hc3).cells
  obtain ⟨y0, y1, y2, y3, y4, y5, y6, y7⟩ := (HA.out.2.2.1.below hc3).cells
  have f1 : ∀ j, w3.frozen? ⟨w.heap.size + 1 + 1, j, none⟩ = false := fun j => has_free (HA.out.2.2.1.below hc3) j
  have HC3 := Lib.hid hc3
  clear hb3 hc3
  go_wp2_with fail
  refine bodyPost_ret (v := .tuple #[zT, .int .i64 2]) (by simp [results, Tryz.results71, go_sem, y0, y1, y2, y3, y4, y5, y6, y7]) rfl ⟨rfl, ?_⟩
  repeat (first | (with_reducible exact HB3.out) | refine below_low ?_ _ _ (by first | (simp; done) | (simp; omega)))
set_option maxHeartbeats 2000000 in
theorem rpush_full (p : Int) (s : Value) (n : Nat) (f : Nat → Jb) (k : Ac) (j : Jb) (now : Int) (w : World) (h : Jobs w s n f) (hv : okT p n f k) (hn : 0 ≤ now ∧ now ≤ 1073741824) (hj : okJ ⟨j.l, j.c, now, j.d⟩) (h8 : 8 ≤ n) :
    Calls Tryz.prog 71 #[tV p s k, jV j, .int .i64 now] w fun e w' => e = .returned (.tuple #[zT, .int .i64 40]) ∧ Below w.heap.size w w' := by
  have HV := Lib.hid (fun w (h : Jobs w s n f) => rvalid p s n f k w h)
  rw [ok_yes hv] at HV
  have HRJ := Lib.hid (rjob ⟨j.l, j.c, now, j.d⟩)
  rw [decide_eq_true hj] at HRJ
  clear hv hj
  have h8' : (8 : Int) ≤ (n : Int) := by omega
  have HJ := Lib.hid h
  obtain ⟨q, cap, rfl, _, _⟩ := h
  obtain ⟨kg, ko, kn, kd, kc, kt⟩ := k
  obtain ⟨l, c, a, d⟩ := j
  obtain ⟨WA, hWA⟩ : ∃ WA, WA = ((w.alloc (.cells #[.int .i64 p, .slice q n cap, .int .i64 kg, .int .i64 ko, .int .i64 kn, .int .i64 kd, .int .i64 kc, .int .i64 kt] KT)).alloc (.cells #[.int .i64 l, .int .i64 c, .int .i64 now, .int .i64 d] JT)).alloc (.cells #[.int .i64 0, .slice none 0 0, .int .i64 0, .int .i64 0, .int .i64 0, .int .i64 0, .int .i64 0, .int .i64 0] KT) := ⟨_, rfl⟩
  have HB := Lib.hid (show Below w.heap.size w WA from by rw [hWA]; exact (((Below.refl _ _).alloc (Nat.le_refl _) _).alloc (by simp) _).alloc (by simp; omega) _)
  have HA := Lib.hid (show HasT WA w.heap.size p (.slice q n cap) ⟨kg, ko, kn, kd, kc, kt⟩ ∧ HasJ WA (w.heap.size + 1) ⟨l, c, now, d⟩ ∧ HasT WA (w.heap.size + 1 + 1) 0 (.slice none 0 0) kZ ∧ WA.heap.size = w.heap.size + 3 from by
    rw [hWA]
    exact ⟨has_old (has_old (has_new w _ _ rfl) _) _, has_old (has_new _ _ _ (by simp)) _, has_new _ _ _ (by simp), by simp⟩)
  have HW := Lib.hid hWA
  clear hWA
  go_enter Tryz.func71, Tryz.ntmps71
  go_wp2_with fail
  rw [← HW.out]
  refine (HV.out _ (HJ.out.below HB.out)).mono ?_
  rintro e w1 ⟨rfl, hb1⟩
  have HB1 := Lib.hid (bnext HB.out hb1)
  have HC1 := Lib.hid hb1
  obtain ⟨x0, x1, x2, x3, x4, x5, x6, x7⟩ := (HA.out.1.below hb1).cells
  obtain ⟨j0, j1, j2, j3⟩ := (HA.out.2.1.below hb1).cells
  obtain ⟨y0, y1, y2, y3, y4, y5, y6, y7⟩ := (HA.out.2.2.1.below hb1).cells
  have f1 : ∀ j, w1.frozen? ⟨w.heap.size + 1 + 1, j, none⟩ = false := fun j => has_free (HA.out.2.2.1.below hb1) j
  clear hb1
  go_wp2_with fail
  refine (rwithin _ _ _).mono ?_
  rintro e w2 ⟨rfl, rfl⟩
  rw [decide_eq_true hn]
  go_wp2_with fail
  refine (HRJ.out _).mono ?_
  rintro e w3 ⟨rfl, hb3⟩
  have HB3 := Lib.hid (bnext HB1.out hb3)
  have hc3 := bnext HC1.out hb3
  clear x0 x1 x2 x3 x4 x5 x6 x7 j0 j1 j2 j3 y0 y1 y2 y3 y4 y5 y6 y7 f1
  obtain ⟨x0, x1, x2, x3, x4, x5, x6, x7⟩ := (HA.out.1.below hc3).cells
  obtain ⟨j0, j1, j2, j3⟩ := (HA.out.2.1.below hc3).cells
  obtain ⟨y0, y1, y2, y3, y4, y5, y6, y7⟩ := (HA.out.2.2.1.below hc3).cells
  have f1 : ∀ j, w3.frozen? ⟨w.heap.size + 1 + 1, j, none⟩ = false := fun j => has_free (HA.out.2.2.1.below hc3) j
  have HC3 := Lib.hid hc3
  clear hb3 hc3
  go_wp2_with fail
  refine bodyPost_ret (v := .tuple #[zT, .int .i64 40]) (by simp [results, Tryz.results71, go_sem, y0, y1, y2, y3, y4, y5, y6, y7]) rfl ⟨rfl, ?_⟩
  repeat (first | (with_reducible exact HB3.out) | refine below_low ?_ _ _ (by first | (simp; done) | (simp; omega)))
set_option maxHeartbeats 4000000 in
theorem rpush_ok (p : Int) (s : Value) (n : Nat) (f : Nat → Jb) (k : Ac) (j : Jb) (now : Int) (w : World) (h : Jobs w s n f) (hv : okT p n f k) (hn : 0 ≤ now ∧ now ≤ 1073741824) (hj : okJ ⟨j.l, j.c, now, j.d⟩) (h8 : n < 8) :
    Calls Tryz.prog 71 #[tV p s k, jV j, .int .i64 now] w fun e w' => ∃ x, e = .returned (.tuple #[x, .int .i64 0]) ∧ TaskO w p (n + 1) (upd f n ⟨j.l, j.c, now, j.d⟩) k x w' := by
  have HV := Lib.hid (fun w (h : Jobs w s n f) => rvalid p s n f k w h)
  rw [ok_yes hv] at HV
  have HRJ := Lib.hid (rjob ⟨j.l, j.c, now, j.d⟩)
  rw [decide_eq_true hj] at HRJ
  clear hv hj
  have h8' : (n : Int) < 8 := by omega
  have h8b : decide ((8 : Int) ≤ (n : Int)) = false := decide_eq_false (by omega)
  have HJ := Lib.hid h
  obtain ⟨q, cap, rfl, _, _⟩ := h
  obtain ⟨kg, ko, kn, kd, kc, kt⟩ := k
  obtain ⟨l, c, a, d⟩ := j
  obtain ⟨WA, hWA⟩ : ∃ WA, WA = ((w.alloc (.cells #[.int .i64 p, .slice q n cap, .int .i64 kg, .int .i64 ko, .int .i64 kn, .int .i64 kd, .int .i64 kc, .int .i64 kt] KT)).alloc (.cells #[.int .i64 l, .int .i64 c, .int .i64 now, .int .i64 d] JT)).alloc (.cells #[.int .i64 0, .slice none 0 0, .int .i64 0, .int .i64 0, .int .i64 0, .int .i64 0, .int .i64 0, .int .i64 0] KT) := ⟨_, rfl⟩
  have HB := Lib.hid (show Below w.heap.size w WA from by rw [hWA]; exact (((Below.refl _ _).alloc (Nat.le_refl _) _).alloc (by simp) _).alloc (by simp; omega) _)
  have HA := Lib.hid (show HasT WA w.heap.size p (.slice q n cap) ⟨kg, ko, kn, kd, kc, kt⟩ ∧ HasJ WA (w.heap.size + 1) ⟨l, c, now, d⟩ ∧ HasT WA (w.heap.size + 1 + 1) 0 (.slice none 0 0) kZ ∧ WA.heap.size = w.heap.size + 3 from by
    rw [hWA]
    exact ⟨has_old (has_old (has_new w _ _ rfl) _) _, has_old (has_new _ _ _ (by simp)) _, has_new _ _ _ (by simp), by simp⟩)
  have HW := Lib.hid hWA
  clear hWA
  go_enter Tryz.func71, Tryz.ntmps71
  go_wp2_with fail
  rw [← HW.out]
  refine (HV.out _ (HJ.out.below HB.out)).mono ?_
  rintro e w1 ⟨rfl, hb1⟩
  have HB1 := Lib.hid (bnext HB.out hb1)
  have HC1 := Lib.hid hb1
  obtain ⟨x0, x1, x2, x3, x4, x5, x6, x7⟩ := (HA.out.1.below hb1).cells
  obtain ⟨j0, j1, j2, j3⟩ := (HA.out.2.1.below hb1).cells
  obtain ⟨y0, y1, y2, y3, y4, y5, y6, y7⟩ := (HA.out.2.2.1.below hb1).cells
  have f1 : ∀ j, w1.frozen? ⟨w.heap.size + 1 + 1, j, none⟩ = false := fun j => has_free (HA.out.2.2.1.below hb1) j
  clear hb1
  go_wp2_with fail
  refine (rwithin _ _ _).mono ?_
  rintro e w2 ⟨rfl, rfl⟩
  rw [decide_eq_true hn]
  go_wp2_with fail
  refine (HRJ.out _).mono ?_
  rintro e w3 ⟨rfl, hb3⟩
  have HB3 := Lib.hid (bnext HB1.out hb3)
  have hc3 := bnext HC1.out hb3
  clear x0 x1 x2 x3 x4 x5 x6 x7 j0 j1 j2 j3 y0 y1 y2 y3 y4 y5 y6 y7 f1
  obtain ⟨x0, x1, x2, x3, x4, x5, x6, x7⟩ := (HA.out.1.below hc3).cells
  obtain ⟨j0, j1, j2, j3⟩ := (HA.out.2.1.below hc3).cells
  obtain ⟨y0, y1, y2, y3, y4, y5, y6, y7⟩ := (HA.out.2.2.1.below hc3).cells
  have f1 : ∀ j, w3.frozen? ⟨w.heap.size + 1 + 1, j, none⟩ = false := fun j => has_free (HA.out.2.2.1.below hc3) j
  have HC3 := Lib.hid hc3
  clear hb3 hc3
  go_upto_region 10 with fail
  go_cut [] (fun wx => Pushed w p n f ⟨kg, ko, kn, kd, kc, kt⟩ ⟨l, c, now, d⟩ wx)
  case first =>
    go_wp2_with fail
    refine (rtwin p (.slice q n cap) n f ⟨kg, ko, kn, kd, kc, kt⟩ _ (HJ.out.below HB3.out) (by omega)).mono ?_
    rintro e w4 ⟨x, rfl, s4, c4, rfl, ho4, hb4⟩
    have hc4 := bnext HC3.out hb4
    have HP := Lib.hid (show Pushed w p n f ⟨kg, ko, kn, kd, kc, kt⟩ ⟨l, c, now, d⟩ ((((((((w4.setCell ⟨w.heap.size, 0, none⟩ (.int .i64 p)).setCell ⟨w.heap.size, 1, none⟩ (.slice s4 n c4)).setCell ⟨w.heap.size, 2, none⟩ (.int .i64 kg)).setCell ⟨w.heap.size, 3, none⟩ (.int .i64 ko)).setCell ⟨w.heap.size, 4, none⟩ (.int .i64 kn)).setCell ⟨w.heap.size, 5, none⟩ (.int .i64 kd)).setCell ⟨w.heap.size, 6, none⟩ (.int .i64 kc)).setCell ⟨w.heap.size, 7, none⟩ (.int .i64 kt)) from
      Pushed.made (HA.out.1.below hc4) (HA.out.2.1.below hc4) (HA.out.2.2.1.below hc4) (own_base2 ho4 (by have := HC3.out.size; have := HA.out.2.2.2; omega)) (bnext HB3.out hb4))
    clear x0 x1 x2 x3 x4 x5 x6 x7 j0 j1 j2 j3 y0 y1 y2 y3 y4 y5 y6 y7 f1
    obtain ⟨x0, x1, x2, x3, x4, x5, x6, x7⟩ := (HA.out.1.below hc4).cells
    obtain ⟨y0, y1, y2, y3, y4, y5, y6, y7⟩ := (HA.out.2.2.1.below hc4).cells
    have f1 : ∀ j, w4.frozen? ⟨w.heap.size + 1 + 1, j, none⟩ = false := fun j => has_free (HA.out.2.2.1.below hc4) j
    have f0 : ∀ j, w4.frozen? ⟨w.heap.size, j, none⟩ = false := fun j => has_free (HA.out.1.below hc4) j
    clear hb4 hc4 ho4
    go_wp2_with fail
    go_meet
    exact HP.out
  case rest =>
    obtain ⟨s4, c4, h1, h2, h3, h4, h5⟩ := hcut
    have HBc := Lib.hid h5
    have HA1 := Lib.hid h1
    have HA2 := Lib.hid h2
    have HA3 := Lib.hid h3
    have HO4 := Lib.hid h4
    obtain ⟨x0, x1, x2, x3, x4, x5, x6, x7⟩ := h1.cells
    obtain ⟨j0, j1, j2, j3⟩ := h2.cells
    have hsz := has_lt h3
    have HNA := Lib.hid (own_under h4 ((Below.refl wc.heap.size wc).alloc (Nat.le_refl _) (.cells #[.int .i64 l, .int .i64 c, .int .i64 now, .int .i64 d] JT)))
    clear h1 h2 h3 h4 h5
    go_wp2_with (at_builtin; refine wpList_append_jobs rfl _ _ rfl (w.heap.size + 3) (.slice s4 n c4) n (jbL f n) rfl HNA.out _ 1 [.int .i64 l, .int .i64 c, .int .i64 now, .int .i64 d] rfl (src_one wc ⟨l, c, now, d⟩ JT) (by intro u hu; simp at hu; rcases hu with rfl | rfl | rfl | rfl <;> rfl) (by omega) (by simp; omega) ?_)
    intro p6 c6 w6 ho6 hg6 ha6
    have HK := Lib.hid (show Keeps (fun x => w.heap.size + 3 ≤ x) wc w6 from ((Keeps.refl _ wc).alloc _).grown hg6 (fun k e => .inl (World.ownsRow.lt HNA.out k e).1))
    have HO6 := Lib.hid (show JobsO (w.heap.size + 3) w6 (.slice p6 (n + 1) c6) (n + 1) (upd f n ⟨l, c, now, d⟩) from by
      unfold JobsO
      rw [jbL_succ, upd_same, jbL_congr (g := f) (fun i hi => upd_ne _ (by omega))]
      exact ho6)
    have HB6 := Lib.hid (HBc.out.trans (HK.out.below HBc.out.size (fun b hb => by omega)))
    have H1 := Lib.hid (show HasT w6 w.heap.size p (.slice s4 n c4) ⟨kg, ko, kn, kd, kc, kt⟩ from (HK.out.block _ (has_lt HA1.out) (by omega)).trans HA1.out)
    have H3 := Lib.hid (show HasT w6 (w.heap.size + 1 + 1) 0 (.slice none 0 0) kZ from (HK.out.block _ (has_lt HA3.out) (by omega)).trans HA3.out)
    clear x0 x1 x2 x3 x4 x5 x6 x7 j0 j1 j2 j3 ho6 hg6 ha6
    obtain ⟨x0, x1, x2, x3, x4, x5, x6, x7⟩ := H1.out.cells
    obtain ⟨y0, y1, y2, y3, y4, y5, y6, y7⟩ := H3.out.cells
    have f0 : ∀ j, w6.frozen? ⟨w.heap.size, j, none⟩ = false := fun j => has_free H1.out j
    have f1 : ∀ j, w6.frozen? ⟨w.heap.size + 1 + 1, j, none⟩ = false := fun j => has_free H3.out j
    go_wp2_with fail
    refine bodyPost_ret (v := .tuple #[tV p (.slice p6 (n + 1) c6) ⟨kg, ko, kn, kd, kc, kt⟩, .int .i64 0]) (by simp [results, Tryz.results71, go_sem, y0, y1, y2, y3, y4, y5, y6, y7]) rfl ⟨_, rfl, p6, c6, rfl, ?_, ?_⟩
    · refine own_base2 (B := w.heap.size + 3) ?_ (by omega)
      repeat (first | (with_reducible exact HO6.out) | refine own_low ?_ _ _ (by first | (simp; done) | (simp; omega)))
    · repeat (first | (with_reducible exact HB6.out) | refine below_low ?_ _ _ (by first | (simp; done) | (simp; omega)))
theorem zero_task {w w' : World} (f : Nat → Jb) (hb : Below w.heap.size w w') : TaskO w 0 0 f kZ zT w' := ⟨none, 0, rfl, World.ownsRow_nil _ _ _ _, hb⟩
/-- Push, every way. -/
theorem rpush_any (p : Int) (s : Value) (n : Nat) (f : Nat → Jb) (k : Ac) (j : Jb) (now : Int) (w : World) (h : Jobs w s n f) :
    Calls Tryz.prog 71 #[tV p s k, jV j, .int .i64 now] w fun e w' => ∃ x, e = .returned (.tuple #[x, .int .i64 (pushE p n f k j now)]) ∧
      TaskO w (if pushE p n f k j now = 0 then p else 0) (if pushE p n f k j now = 0 then n + 1 else 0) (upd f n ⟨j.l, j.c, now, j.d⟩) (if pushE p n f k j now = 0 then k else kZ) x w' := by
  by_cases hv : okT p n f k
  · by_cases hn : 0 ≤ now ∧ now ≤ 1073741824
    · by_cases hj : okJ ⟨j.l, j.c, now, j.d⟩
      · by_cases h8 : 8 ≤ n
        · have hE : pushE p n f k j now = 40 := by unfold pushE; rw [if_neg (fun h => h hv), if_neg (fun h => h hn), if_neg (fun h => h hj), if_pos h8]
          rw [hE]
          exact (rpush_full p s n f k j now w h hv hn hj h8).mono fun e w' ⟨he, hb⟩ => ⟨_, he, zero_task _ hb⟩
        · have hE : pushE p n f k j now = 0 := by unfold pushE; rw [if_neg (fun h => h hv), if_neg (fun h => h hn), if_neg (fun h => h hj), if_neg h8]
          rw [hE]
          exact (rpush_ok p s n f k j now w h hv hn hj (by omega)).mono fun e w' ⟨x, he, hb⟩ => ⟨x, he, hb⟩
      · have hE : pushE p n f k j now = 2 := by unfold pushE; rw [if_neg (fun h => h hv), if_neg (fun h => h hn), if_pos hj]
        rw [hE]
        exact (rpush_range p s n f k j now w h hv hn hj).mono fun e w' ⟨he, hb⟩ => ⟨_, he, zero_task _ hb⟩
    · have hE : pushE p n f k j now = 1 := by unfold pushE; rw [if_neg (fun h => h hv), if_pos hn]
      rw [hE]
      exact (rpush_arg p s n f k j now w h hv hn).mono fun e w' ⟨he, hb⟩ => ⟨_, he, zero_task _ hb⟩
  · have hE : pushE p n f k j now = 270 := if_pos hv
    rw [hE]
    exact (rpush_state p s n f k j now w h hv).mono fun e w' ⟨he, hb⟩ => ⟨_, he, zero_task _ hb⟩
end Go.Proofs.YtedgchafligndaaGreat
/- The blocks that the document's Run works on, known whole; what each store makes of them; nothing of the program is walked; no condition but those that each row names. -/
namespace Go.Proofs.YtedgchafligndaaGreat
open Go.RowKit Tsk

theorem arrT1 (u0 u1 u2 u3 u4 u5 u6 u7 v : Value) : #[u0, u1, u2, u3, u4, u5, u6, u7].setIfInBounds 1 v = #[u0, v, u2, u3, u4, u5, u6, u7] := by rw [← Array.toList_inj, Array.toList_setIfInBounds]; rfl
theorem arrT2 (u0 u1 u2 u3 u4 u5 u6 u7 v : Value) : #[u0, u1, u2, u3, u4, u5, u6, u7].setIfInBounds 2 v = #[u0, u1, v, u3, u4, u5, u6, u7] := by rw [← Array.toList_inj, Array.toList_setIfInBounds]; rfl
theorem arrT3 (u0 u1 u2 u3 u4 u5 u6 u7 v : Value) : #[u0, u1, u2, u3, u4, u5, u6, u7].setIfInBounds 3 v = #[u0, u1, u2, v, u4, u5, u6, u7] := by rw [← Array.toList_inj, Array.toList_setIfInBounds]; rfl
theorem arrT5 (u0 u1 u2 u3 u4 u5 u6 u7 v : Value) : #[u0, u1, u2, u3, u4, u5, u6, u7].setIfInBounds 5 v = #[u0, u1, u2, u3, u4, v, u6, u7] := by rw [← Array.toList_inj, Array.toList_setIfInBounds]; rfl
theorem arrT6 (u0 u1 u2 u3 u4 u5 u6 u7 v : Value) : #[u0, u1, u2, u3, u4, u5, u6, u7].setIfInBounds 6 v = #[u0, u1, u2, u3, u4, u5, v, u7] := by rw [← Array.toList_inj, Array.toList_setIfInBounds]; rfl
theorem arrT7 (u0 u1 u2 u3 u4 u5 u6 u7 v : Value) : #[u0, u1, u2, u3, u4, u5, u6, u7].setIfInBounds 7 v = #[u0, u1, u2, u3, u4, u5, u6, v] := by rw [← Array.toList_inj, Array.toList_setIfInBounds]; rfl
theorem arrJ0 (u0 u1 u2 u3 v : Value) : #[u0, u1, u2, u3].setIfInBounds 0 v = #[v, u1, u2, u3] := by rw [← Array.toList_inj, Array.toList_setIfInBounds]; rfl
theorem arrJ1 (u0 u1 u2 u3 v : Value) : #[u0, u1, u2, u3].setIfInBounds 1 v = #[u0, v, u2, u3] := by rw [← Array.toList_inj, Array.toList_setIfInBounds]; rfl
section
variable {W : World} {g : Nat} {p : Int} {s : Value} {k : Ac}
theorem HasT.set1 (h : HasT W g p s k) (u : Value) : HasT (W.setCell ⟨g, 1, none⟩ u) g p u k := by have a := has_set h 1 u; rwa [arrT1] at a
theorem HasT.set2 (h : HasT W g p s k) (x : Int) : HasT (W.setCell ⟨g, 2, none⟩ (.int .i64 x)) g p s ⟨x, k.o, k.n, k.d, k.c, k.t⟩ := by have a := has_set h 2 (.int .i64 x); rwa [arrT2] at a
theorem HasT.set3 (h : HasT W g p s k) (x : Int) : HasT (W.setCell ⟨g, 3, none⟩ (.int .i64 x)) g p s ⟨k.g, x, k.n, k.d, k.c, k.t⟩ := by have a := has_set h 3 (.int .i64 x); rwa [arrT3] at a
theorem HasT.set5 (h : HasT W g p s k) (x : Int) : HasT (W.setCell ⟨g, 5, none⟩ (.int .i64 x)) g p s ⟨k.g, k.o, k.n, x, k.c, k.t⟩ := by have a := has_set h 5 (.int .i64 x); rwa [arrT5] at a
theorem HasT.set6 (h : HasT W g p s k) (x : Int) : HasT (W.setCell ⟨g, 6, none⟩ (.int .i64 x)) g p s ⟨k.g, k.o, k.n, k.d, x, k.t⟩ := by have a := has_set h 6 (.int .i64 x); rwa [arrT6] at a
theorem HasT.set7 (h : HasT W g p s k) (x : Int) : HasT (W.setCell ⟨g, 7, none⟩ (.int .i64 x)) g p s ⟨k.g, k.o, k.n, k.d, k.c, x⟩ := by have a := has_set h 7 (.int .i64 x); rwa [arrT7] at a
theorem HasT.other (h : HasT W g p s k) (q : Addr) (u : Value) (hq : q.block ≠ g) : HasT (W.setCell q u) g p s k := has_other h q u hq
variable {j : Jb}
theorem HasJ.set0 (h : HasJ W g j) (x : Int) : HasJ (W.setCell ⟨g, 0, none⟩ (.int .i64 x)) g ⟨x, j.c, j.a, j.d⟩ := by have a := has_set h 0 (.int .i64 x); rwa [arrJ0] at a
theorem HasJ.set1 (h : HasJ W g j) (x : Int) : HasJ (W.setCell ⟨g, 1, none⟩ (.int .i64 x)) g ⟨j.l, x, j.a, j.d⟩ := by have a := has_set h 1 (.int .i64 x); rwa [arrJ1] at a
theorem HasJ.other (h : HasJ W g j) (q : Addr) (u : Value) (hq : q.block ≠ g) : HasJ (W.setCell q u) g j := has_other h q u hq
end
/-- The task's block, the answer's, the job's, the row of jobs. -/
structure St (w : World) (p : Int) (sv : Value) (k : Ac) (J : Nat) (j : Jb) (g n cap : Nat) (f : Nat → Jb) (wx : World) : Prop where
  t : HasT wx w.heap.size p sv k
  r : HasT wx (w.heap.size + 1) 0 (.slice none 0 0) kZ
  j : HasJ wx J j
  Jl : w.heap.size + 2 ≤ J
  Jg : J ≠ g
  row : JobsO (w.heap.size + 2) wx (.slice (some ⟨g, 0, none⟩) n cap) n f
  gl : w.heap.size + 2 ≤ g
  below : Below w.heap.size w wx
section
variable {w wx : World} {p : Int} {sv : Value} {k : Ac} {J : Nat} {j : Jb} {g n cap : Nat} {f : Nat → Jb}
theorem own_ne {B e z m : Nat} {W : World} {G c : Nat} {xs : List Value} (h : W.ownsRow B e z (.slice (some ⟨G, 0, none⟩) m c) m xs) (q : Addr) (u : Value) (hq : q.block ≠ G) : (W.setCell q u).ownsRow B e z (.slice (some ⟨G, 0, none⟩) m c) m xs :=
  World.ownsRow.kept (row := some q.block) h (grown_set W q u) (.inr fun e => hq (by simp [Value.ownBlock] at e; omega))
theorem St.new {c4 : Nat} (h1 : HasT wx w.heap.size p (.slice (some ⟨g, 0, none⟩) n c4) k) (h2 : HasT wx (w.heap.size + 1) 0 (.slice none 0 0) kZ) (h3 : JobsO (w.heap.size + 2) wx (.slice (some ⟨g, 0, none⟩) n c4) n f) (h4 : Below w.heap.size w wx) (jb : Jb) :
    St w p (.slice (some ⟨g, 0, none⟩) n c4) k wx.heap.size jb g n c4 f (wx.alloc (.cells #[.int .i64 jb.l, .int .i64 jb.c, .int .i64 jb.a, .int .i64 jb.d] JT)) := by
  have hb : Below wx.heap.size wx (wx.alloc (.cells #[.int .i64 jb.l, .int .i64 jb.c, .int .i64 jb.a, .int .i64 jb.d] JT)) := (Below.refl _ _).alloc (Nat.le_refl _) _
  have hl := World.ownsRow.lt h3 g rfl
  exact ⟨h1.below hb, h2.below hb, has_new _ _ _ rfl, by have := has_lt h2; omega, by omega, own_under h3 hb, hl.1, bnext h4 hb⟩
/-- What Run has made of the task and its first job, ahead of the switch. -/
theorem St.ran {c4 : Nat} (h1 : HasT wx w.heap.size p (.slice (some ⟨g, 0, none⟩) n c4) k) (h2 : HasT wx (w.heap.size + 1) 0 (.slice none 0 0) kZ) (h3 : JobsO (w.heap.size + 2) wx (.slice (some ⟨g, 0, none⟩) n c4) n f) (h4 : Below w.heap.size w wx) (jb : Jb) (x y : Int) :
    St w p (.slice (some ⟨g, 0, none⟩) n c4) ⟨x, y, k.n, k.d, k.c, k.t⟩ wx.heap.size jb g n c4 (upd f 0 jb) (((((((wx.setCell ⟨w.heap.size, 2, none⟩ (.int .i64 x)).setCell ⟨w.heap.size, 3, none⟩ (.int .i64 y)).setCell ⟨g, 0, none⟩ (.int .i64 jb.l)).setCell ⟨g, 1, none⟩ (.int .i64 jb.c)).setCell ⟨g, 2, none⟩ (.int .i64 jb.a)).setCell ⟨g, 3, none⟩ (.int .i64 jb.d)).alloc (.cells #[.int .i64 jb.l, .int .i64 jb.c, .int .i64 jb.a, .int .i64 jb.d] JT)) := by
  have hl := (World.ownsRow.lt h3 g rfl).1
  have e : ∀ (W : World) q u, (W.setCell q u).heap.size = W.heap.size := fun W q u => by simp [World.setCell]
  have hn := St.new (w := w) (p := p) (k := ⟨x, y, k.n, k.d, k.c, k.t⟩) (g := g) (n := n) (f := upd f 0 jb) (c4 := c4) (wx := (((((wx.setCell ⟨w.heap.size, 2, none⟩ (.int .i64 x)).setCell ⟨w.heap.size, 3, none⟩ (.int .i64 y)).setCell ⟨g, 0, none⟩ (.int .i64 jb.l)).setCell ⟨g, 1, none⟩ (.int .i64 jb.c)).setCell ⟨g, 2, none⟩ (.int .i64 jb.a)).setCell ⟨g, 3, none⟩ (.int .i64 jb.d)) ?_ ?_ ?_ ?_ jb
  · rw [e, e, e, e, e, e] at hn
    exact hn
  · iterate 4 refine HasT.other ?_ _ _ (by show g ≠ w.heap.size; omega)
    exact (h1.set2 x).set3 y
  · iterate 4 refine HasT.other ?_ _ _ (by show g ≠ w.heap.size + 1; omega)
    iterate 2 refine HasT.other ?_ _ _ (by show w.heap.size ≠ w.heap.size + 1; omega)
    exact h2
  · have h0 := own_low (own_low h3 ⟨w.heap.size, 2, none⟩ (.int .i64 x) (by show w.heap.size < w.heap.size + 2; omega)) ⟨w.heap.size, 3, none⟩ (.int .i64 y) (by show w.heap.size < w.heap.size + 2; omega)
    have k1 := (World.ownsRow.stored h0 (0 * 4) (.int .i64 jb.l)).1
    have k2 := (World.ownsRow.stored k1 (0 * 4 + 1) (.int .i64 jb.c)).1
    have k3 := (World.ownsRow.stored k2 (0 * 4 + 2) (.int .i64 jb.a)).1
    have k4 := (World.ownsRow.stored k3 (0 * 4 + 3) (.int .i64 jb.d)).1
    rw [jbL_set] at k4
    exact k4
  · iterate 4 refine below_low ?_ _ _ (by show w.heap.size ≤ g; omega)
    iterate 2 refine below_low ?_ _ _ (Nat.le_refl _)
    exact h4
theorem St.setT (h : St w p sv k J j g n cap f wx) (i : Nat) (u : Value) {sv' : Value} {k' : Ac} (ht : HasT (wx.setCell ⟨w.heap.size, i, none⟩ u) w.heap.size p sv' k') : St w p sv' k' J j g n cap f (wx.setCell ⟨w.heap.size, i, none⟩ u) :=
  ⟨ht, h.r.other _ _ (by show w.heap.size ≠ w.heap.size + 1; omega), h.j.other _ _ (by have := h.Jl; show w.heap.size ≠ J; omega), h.Jl, h.Jg, own_low h.row _ _ (by show w.heap.size < w.heap.size + 2; omega), h.gl, below_low h.below _ _ (Nat.le_refl _)⟩
theorem St.setJ (h : St w p sv k J j g n cap f wx) (i : Nat) (u : Value) {j' : Jb} (hj : HasJ (wx.setCell ⟨J, i, none⟩ u) J j') : St w p sv k J j' g n cap f (wx.setCell ⟨J, i, none⟩ u) :=
  ⟨h.t.other _ _ (by have := h.Jl; show J ≠ w.heap.size; omega), h.r.other _ _ (by have := h.Jl; show J ≠ w.heap.size + 1; omega), hj, h.Jl, h.Jg, own_ne h.row _ _ h.Jg, h.gl, below_low h.below _ _ (by have := h.Jl; show w.heap.size ≤ J; omega)⟩
theorem St.setR (h : St w p sv k J j g n cap f wx) (jb : Jb) : St w p sv k J j g n cap (upd f 0 jb) ((((wx.setCell ⟨g, 0, none⟩ (.int .i64 jb.l)).setCell ⟨g, 1, none⟩ (.int .i64 jb.c)).setCell ⟨g, 2, none⟩ (.int .i64 jb.a)).setCell ⟨g, 3, none⟩ (.int .i64 jb.d)) := by
  have hg := h.gl
  have hJ := h.Jg
  refine ⟨?_, ?_, ?_, h.Jl, h.Jg, ?_, h.gl, ?_⟩
  · iterate 4 refine HasT.other ?_ _ _ (by show g ≠ w.heap.size; omega)
    exact h.t
  · iterate 4 refine HasT.other ?_ _ _ (by show g ≠ w.heap.size + 1; omega)
    exact h.r
  · iterate 4 refine HasJ.other ?_ _ _ (by show g ≠ J; omega)
    exact h.j
  · have h1 := (World.ownsRow.stored h.row (0 * 4) (.int .i64 jb.l)).1
    have h2 := (World.ownsRow.stored h1 (0 * 4 + 1) (.int .i64 jb.c)).1
    have h3 := (World.ownsRow.stored h2 (0 * 4 + 2) (.int .i64 jb.a)).1
    have h4 := (World.ownsRow.stored h3 (0 * 4 + 3) (.int .i64 jb.d)).1
    rw [jbL_set] at h4
    exact h4
  · iterate 4 refine below_low ?_ _ _ (by show w.heap.size ≤ g; omega)
    exact h.below
end
end Go.Proofs.YtedgchafligndaaGreat
/- The document's own task: Run; no condition but those that each row names. -/
namespace Go.Proofs.YtedgchafligndaaGreat
open Go.RowKit Tsk

set_option maxHeartbeats 2000000 in
theorem rrun_state (p : Int) (s : Value) (n : Nat) (f : Nat → Jb) (k : Ac) (now : Int) (w : World) (h : Jobs w s n f) (hv : ¬ okT p n f k) :
    Calls Tryz.prog 72 #[tV p s k, .int .i64 now] w fun e w' => e = .returned (.tuple #[zT, .int .i64 0, .int .i64 0, .int .i64 270]) ∧ Below w.heap.size w w' := by
  have HV := Lib.hid (fun w (h : Jobs w s n f) => rvalid p s n f k w h)
  rw [ok_no hv] at HV
  clear hv
  have HJ := Lib.hid h
  obtain ⟨q, cap, rfl, _, _⟩ := h
  obtain ⟨kg, ko, kn, kd, kc, kt⟩ := k
  obtain ⟨WA, hWA⟩ : ∃ WA, WA = (w.alloc (.cells #[.int .i64 p, .slice q n cap, .int .i64 kg, .int .i64 ko, .int .i64 kn, .int .i64 kd, .int .i64 kc, .int .i64 kt] KT)).alloc (.cells #[.int .i64 0, .slice none 0 0, .int .i64 0, .int .i64 0, .int .i64 0, .int .i64 0, .int .i64 0, .int .i64 0] KT) := ⟨_, rfl⟩
  have HB := Lib.hid (show Below w.heap.size w WA from by rw [hWA]; exact ((Below.refl _ _).alloc (Nat.le_refl _) _).alloc (by simp) _)
  have HA := Lib.hid (show HasT WA w.heap.size p (.slice q n cap) ⟨kg, ko, kn, kd, kc, kt⟩ ∧ HasT WA (w.heap.size + 1) 0 (.slice none 0 0) kZ ∧ WA.heap.size = w.heap.size + 2 from by
    rw [hWA]
    exact ⟨has_old (has_new w _ _ rfl) _, has_new _ _ _ (by simp), by simp⟩)
  have HW := Lib.hid hWA
  clear hWA
  go_enter Tryz.func72, Tryz.ntmps72
  go_wp2_with fail
  rw [← HW.out]
  refine (HV.out _ (HJ.out.below HB.out)).mono ?_
  rintro e w1 ⟨rfl, hb1⟩
  have HB1 := Lib.hid (bnext HB.out hb1)
  have HC1 := Lib.hid hb1
  obtain ⟨x0, x1, x2, x3, x4, x5, x6, x7⟩ := (HA.out.1.below hb1).cells
  obtain ⟨y0, y1, y2, y3, y4, y5, y6, y7⟩ := (HA.out.2.1.below hb1).cells
  have f1 : ∀ j, w1.frozen? ⟨w.heap.size + 1, j, none⟩ = false := fun j => has_free (HA.out.2.1.below hb1) j
  clear hb1
  go_wp2_with fail
  refine bodyPost_ret (v := .tuple #[zT, .int .i64 0, .int .i64 0, .int .i64 270]) (by simp [results, Tryz.results72, go_sem, y0, y1, y2, y3, y4, y5, y6, y7]) rfl ⟨rfl, ?_⟩
  repeat (first | (with_reducible exact HB1.out) | refine below_low ?_ _ _ (by first | (simp; done) | (simp; omega)))
set_option maxHeartbeats 2000000 in
theorem rrun_arg1 (p : Int) (s : Value) (n : Nat) (f : Nat → Jb) (k : Ac) (now : Int) (w : World) (h : Jobs w s n f) (hv : okT p n f k) (hn : now < 0) :
    Calls Tryz.prog 72 #[tV p s k, .int .i64 now] w fun e w' => e = .returned (.tuple #[zT, .int .i64 0, .int .i64 0, .int .i64 1]) ∧ Below w.heap.size w w' := by
  have HV := Lib.hid (fun w (h : Jobs w s n f) => rvalid p s n f k w h)
  rw [ok_yes hv] at HV
  clear hv
  have HJ := Lib.hid h
  obtain ⟨q, cap, rfl, _, _⟩ := h
  obtain ⟨kg, ko, kn, kd, kc, kt⟩ := k
  obtain ⟨WA, hWA⟩ : ∃ WA, WA = (w.alloc (.cells #[.int .i64 p, .slice q n cap, .int .i64 kg, .int .i64 ko, .int .i64 kn, .int .i64 kd, .int .i64 kc, .int .i64 kt] KT)).alloc (.cells #[.int .i64 0, .slice none 0 0, .int .i64 0, .int .i64 0, .int .i64 0, .int .i64 0, .int .i64 0, .int .i64 0] KT) := ⟨_, rfl⟩
  have HB := Lib.hid (show Below w.heap.size w WA from by rw [hWA]; exact ((Below.refl _ _).alloc (Nat.le_refl _) _).alloc (by simp) _)
  have HA := Lib.hid (show HasT WA w.heap.size p (.slice q n cap) ⟨kg, ko, kn, kd, kc, kt⟩ ∧ HasT WA (w.heap.size + 1) 0 (.slice none 0 0) kZ ∧ WA.heap.size = w.heap.size + 2 from by
    rw [hWA]
    exact ⟨has_old (has_new w _ _ rfl) _, has_new _ _ _ (by simp), by simp⟩)
  have HW := Lib.hid hWA
  clear hWA
  go_enter Tryz.func72, Tryz.ntmps72
  go_wp2_with fail
  rw [← HW.out]
  refine (HV.out _ (HJ.out.below HB.out)).mono ?_
  rintro e w1 ⟨rfl, hb1⟩
  have HB1 := Lib.hid (bnext HB.out hb1)
  have HC1 := Lib.hid hb1
  obtain ⟨x0, x1, x2, x3, x4, x5, x6, x7⟩ := (HA.out.1.below hb1).cells
  obtain ⟨y0, y1, y2, y3, y4, y5, y6, y7⟩ := (HA.out.2.1.below hb1).cells
  have f1 : ∀ j, w1.frozen? ⟨w.heap.size + 1, j, none⟩ = false := fun j => has_free (HA.out.2.1.below hb1) j
  clear hb1
  go_wp2_with fail
  refine bodyPost_ret (v := .tuple #[zT, .int .i64 0, .int .i64 0, .int .i64 1]) (by simp [results, Tryz.results72, go_sem, y0, y1, y2, y3, y4, y5, y6, y7]) rfl ⟨rfl, ?_⟩
  repeat (first | (with_reducible exact HB1.out) | refine below_low ?_ _ _ (by first | (simp; done) | (simp; omega)))
set_option maxHeartbeats 2000000 in
theorem rrun_arg2 (p : Int) (s : Value) (n : Nat) (f : Nat → Jb) (k : Ac) (now : Int) (w : World) (h : Jobs w s n f) (hv : okT p n f k) (hn : ¬ now < 0) (hn2 : 1073741824 ≤ now) :
    Calls Tryz.prog 72 #[tV p s k, .int .i64 now] w fun e w' => e = .returned (.tuple #[zT, .int .i64 0, .int .i64 0, .int .i64 1]) ∧ Below w.heap.size w w' := by
  have HV := Lib.hid (fun w (h : Jobs w s n f) => rvalid p s n f k w h)
  rw [ok_yes hv] at HV
  clear hv
  have hnb : decide (now < 0) = false := decide_eq_false hn
  have HJ := Lib.hid h
  obtain ⟨q, cap, rfl, _, _⟩ := h
  obtain ⟨kg, ko, kn, kd, kc, kt⟩ := k
  obtain ⟨WA, hWA⟩ : ∃ WA, WA = (w.alloc (.cells #[.int .i64 p, .slice q n cap, .int .i64 kg, .int .i64 ko, .int .i64 kn, .int .i64 kd, .int .i64 kc, .int .i64 kt] KT)).alloc (.cells #[.int .i64 0, .slice none 0 0, .int .i64 0, .int .i64 0, .int .i64 0, .int .i64 0, .int .i64 0, .int .i64 0] KT) := ⟨_, rfl⟩
  have HB := Lib.hid (show Below w.heap.size w WA from by rw [hWA]; exact ((Below.refl _ _).alloc (Nat.le_refl _) _).alloc (by simp) _)
  have HA := Lib.hid (show HasT WA w.heap.size p (.slice q n cap) ⟨kg, ko, kn, kd, kc, kt⟩ ∧ HasT WA (w.heap.size + 1) 0 (.slice none 0 0) kZ ∧ WA.heap.size = w.heap.size + 2 from by
    rw [hWA]
    exact ⟨has_old (has_new w _ _ rfl) _, has_new _ _ _ (by simp), by simp⟩)
  have HW := Lib.hid hWA
  clear hWA
  go_enter Tryz.func72, Tryz.ntmps72
  go_wp2_with fail
  rw [← HW.out]
  refine (HV.out _ (HJ.out.below HB.out)).mono ?_
  rintro e w1 ⟨rfl, hb1⟩
  have HB1 := Lib.hid (bnext HB.out hb1)
  have HC1 := Lib.hid hb1
  obtain ⟨x0, x1, x2, x3, x4, x5, x6, x7⟩ := (HA.out.1.below hb1).cells
  obtain ⟨y0, y1, y2, y3, y4, y5, y6, y7⟩ := (HA.out.2.1.below hb1).cells
  have f1 : ∀ j, w1.frozen? ⟨w.heap.size + 1, j, none⟩ = false := fun j => has_free (HA.out.2.1.below hb1) j
  clear hb1
  go_wp2_with fail
  refine bodyPost_ret (v := .tuple #[zT, .int .i64 0, .int .i64 0, .int .i64 1]) (by simp [results, Tryz.results72, go_sem, y0, y1, y2, y3, y4, y5, y6, y7]) rfl ⟨rfl, ?_⟩
  repeat (first | (with_reducible exact HB1.out) | refine below_low ?_ _ _ (by first | (simp; done) | (simp; omega)))
set_option maxHeartbeats 2000000 in
theorem rrun_none (p : Int) (s : Value) (n : Nat) (f : Nat → Jb) (k : Ac) (now : Int) (w : World) (h : Jobs w s n f) (hv : okT p n f k) (hn : 0 ≤ now ∧ now < 1073741824) (h0 : n = 0) :
    Calls Tryz.prog 72 #[tV p s k, .int .i64 now] w fun e w' => e = .returned (.tuple #[zT, .int .i64 0, .int .i64 0, .int .i64 50]) ∧ Below w.heap.size w w' := by
  have HV := Lib.hid (fun w (h : Jobs w s n f) => rvalid p s n f k w h)
  rw [ok_yes hv] at HV
  clear hv
  have hnb : decide (now < 0) = false := decide_eq_false (by omega)
  have hnc : decide (1073741824 ≤ now) = false := decide_eq_false (by omega)
  have hz : decide (0 < n) = false := decide_eq_false (by omega)
  clear h0
  have HJ := Lib.hid h
  obtain ⟨q, cap, rfl, _, _⟩ := h
  obtain ⟨kg, ko, kn, kd, kc, kt⟩ := k
  obtain ⟨WA, hWA⟩ : ∃ WA, WA = (w.alloc (.cells #[.int .i64 p, .slice q n cap, .int .i64 kg, .int .i64 ko, .int .i64 kn, .int .i64 kd, .int .i64 kc, .int .i64 kt] KT)).alloc (.cells #[.int .i64 0, .slice none 0 0, .int .i64 0, .int .i64 0, .int .i64 0, .int .i64 0, .int .i64 0, .int .i64 0] KT) := ⟨_, rfl⟩
  have HB := Lib.hid (show Below w.heap.size w WA from by rw [hWA]; exact ((Below.refl _ _).alloc (Nat.le_refl _) _).alloc (by simp) _)
  have HA := Lib.hid (show HasT WA w.heap.size p (.slice q n cap) ⟨kg, ko, kn, kd, kc, kt⟩ ∧ HasT WA (w.heap.size + 1) 0 (.slice none 0 0) kZ ∧ WA.heap.size = w.heap.size + 2 from by
    rw [hWA]
    exact ⟨has_old (has_new w _ _ rfl) _, has_new _ _ _ (by simp), by simp⟩)
  have HW := Lib.hid hWA
  clear hWA
  go_enter Tryz.func72, Tryz.ntmps72
  go_wp2_with fail
  rw [← HW.out]
  refine (HV.out _ (HJ.out.below HB.out)).mono ?_
  rintro e w1 ⟨rfl, hb1⟩
  have HB1 := Lib.hid (bnext HB.out hb1)
  have HC1 := Lib.hid hb1
  obtain ⟨x0, x1, x2, x3, x4, x5, x6, x7⟩ := (HA.out.1.below hb1).cells
  obtain ⟨y0, y1, y2, y3, y4, y5, y6, y7⟩ := (HA.out.2.1.below hb1).cells
  have f1 : ∀ j, w1.frozen? ⟨w.heap.size + 1, j, none⟩ = false := fun j => has_free (HA.out.2.1.below hb1) j
  clear hb1
  go_wp2_with fail
  refine (rready p q n cap ⟨kg, ko, kn, kd, kc, kt⟩ _).mono ?_
  rintro e w3 ⟨rfl, hb3⟩
  rw [hz]
  have HB3 := Lib.hid (bnext HB1.out hb3)
  have hc3 := bnext HC1.out hb3
  clear x0 x1 x2 x3 x4 x5 x6 x7 y0 y1 y2 y3 y4 y5 y6 y7 f1
  obtain ⟨x0, x1, x2, x3, x4, x5, x6, x7⟩ := (HA.out.1.below hc3).cells
  obtain ⟨y0, y1, y2, y3, y4, y5, y6, y7⟩ := (HA.out.2.1.below hc3).cells
  have f1 : ∀ j, w3.frozen? ⟨w.heap.size + 1, j, none⟩ = false := fun j => has_free (HA.out.2.1.below hc3) j
  have HC3 := Lib.hid hc3
  clear hb3 hc3
  go_wp2_with fail
  refine bodyPost_ret (v := .tuple #[zT, .int .i64 0, .int .i64 0, .int .i64 50]) (by simp [results, Tryz.results72, go_sem, y0, y1, y2, y3, y4, y5, y6, y7]) rfl ⟨rfl, ?_⟩
  repeat (first | (with_reducible exact HB3.out) | refine below_low ?_ _ _ (by first | (simp; done) | (simp; omega)))
set_option maxHeartbeats 2000000 in
theorem rrun_time (p : Int) (s : Value) (n : Nat) (f : Nat → Jb) (k : Ac) (now : Int) (w : World) (h : Jobs w s n f) (hv : okT p n f k) (hn : 0 ≤ now ∧ now < 1073741824) (h0 : 0 < n) (hg : k.g = 1073741824) :
    Calls Tryz.prog 72 #[tV p s k, .int .i64 now] w fun e w' => e = .returned (.tuple #[zT, .int .i64 0, .int .i64 0, .int .i64 60]) ∧ Below w.heap.size w w' := by
  have HV := Lib.hid (fun w (h : Jobs w s n f) => rvalid p s n f k w h)
  rw [ok_yes hv] at HV
  clear hv
  have hnb : decide (now < 0) = false := decide_eq_false (by omega)
  have hnc : decide (1073741824 ≤ now) = false := decide_eq_false (by omega)
  have HJ := Lib.hid h
  obtain ⟨q, cap, rfl, _, _⟩ := h
  obtain ⟨kg, ko, kn, kd, kc, kt⟩ := k
  have hg2 : (kg == 1073741824) = true := by simpa using hg
  clear hg
  obtain ⟨WA, hWA⟩ : ∃ WA, WA = (w.alloc (.cells #[.int .i64 p, .slice q n cap, .int .i64 kg, .int .i64 ko, .int .i64 kn, .int .i64 kd, .int .i64 kc, .int .i64 kt] KT)).alloc (.cells #[.int .i64 0, .slice none 0 0, .int .i64 0, .int .i64 0, .int .i64 0, .int .i64 0, .int .i64 0, .int .i64 0] KT) := ⟨_, rfl⟩
  have HB := Lib.hid (show Below w.heap.size w WA from by rw [hWA]; exact ((Below.refl _ _).alloc (Nat.le_refl _) _).alloc (by simp) _)
  have HA := Lib.hid (show HasT WA w.heap.size p (.slice q n cap) ⟨kg, ko, kn, kd, kc, kt⟩ ∧ HasT WA (w.heap.size + 1) 0 (.slice none 0 0) kZ ∧ WA.heap.size = w.heap.size + 2 from by
    rw [hWA]
    exact ⟨has_old (has_new w _ _ rfl) _, has_new _ _ _ (by simp), by simp⟩)
  have HW := Lib.hid hWA
  clear hWA
  go_enter Tryz.func72, Tryz.ntmps72
  go_wp2_with fail
  rw [← HW.out]
  refine (HV.out _ (HJ.out.below HB.out)).mono ?_
  rintro e w1 ⟨rfl, hb1⟩
  have HB1 := Lib.hid (bnext HB.out hb1)
  have HC1 := Lib.hid hb1
  obtain ⟨x0, x1, x2, x3, x4, x5, x6, x7⟩ := (HA.out.1.below hb1).cells
  obtain ⟨y0, y1, y2, y3, y4, y5, y6, y7⟩ := (HA.out.2.1.below hb1).cells
  have f1 : ∀ j, w1.frozen? ⟨w.heap.size + 1, j, none⟩ = false := fun j => has_free (HA.out.2.1.below hb1) j
  clear hb1
  go_wp2_with fail
  refine (rready p q n cap ⟨kg, ko, kn, kd, kc, kt⟩ _).mono ?_
  rintro e w3 ⟨rfl, hb3⟩
  have HB3 := Lib.hid (bnext HB1.out hb3)
  have hc3 := bnext HC1.out hb3
  clear x0 x1 x2 x3 x4 x5 x6 x7 y0 y1 y2 y3 y4 y5 y6 y7 f1
  obtain ⟨x0, x1, x2, x3, x4, x5, x6, x7⟩ := (HA.out.1.below hc3).cells
  obtain ⟨y0, y1, y2, y3, y4, y5, y6, y7⟩ := (HA.out.2.1.below hc3).cells
  have f1 : ∀ j, w3.frozen? ⟨w.heap.size + 1, j, none⟩ = false := fun j => has_free (HA.out.2.1.below hc3) j
  have HC3 := Lib.hid hc3
  clear hb3 hc3
  go_wp2_with fail
  refine bodyPost_ret (v := .tuple #[zT, .int .i64 0, .int .i64 0, .int .i64 60]) (by simp [results, Tryz.results72, go_sem, y0, y1, y2, y3, y4, y5, y6, y7]) rfl ⟨rfl, ?_⟩
  repeat (first | (with_reducible exact HB3.out) | refine below_low ?_ _ _ (by first | (simp; done) | (simp; omega)))
/-- What a tick makes of the first job: the job, what became of it, how late it was, the account. -/
def runJ (j : Jb) : Jb := ⟨j.l - 1, if 0 < j.c then j.c - 1 else j.c, j.a, j.d⟩
def runW (j : Jb) : Int := if j.l = 1 then 1 else if j.c = 1 then 2 else 0
def runL (j : Jb) (now : Int) : Int := if (j.l = 1 ∨ j.c = 1) ∧ 0 < j.d ∧ 0 < now + 1 - j.a - j.d then now + 1 - j.a - j.d else 0
def runK (k : Ac) (j : Jb) (now : Int) : Ac := ⟨k.g + 1, k.o + 1, k.n, if j.l = 1 then k.d + 1 else k.d, if j.l ≠ 1 ∧ j.c = 1 then k.c + 1 else k.c, if (j.l = 1 ∨ j.c = 1) ∧ 0 < j.d ∧ 0 < now + 1 - j.a - j.d then k.t + 1 else k.t⟩
def runN (n : Nat) (j : Jb) : Nat := if j.l = 1 ∨ j.c = 1 then n - 1 else n
def runF (f : Nat → Jb) : Nat → Jb := if (f 0).l = 1 ∨ (f 0).c = 1 then fun i => f (i + 1) else upd f 0 (runJ (f 0))
/-- What is answered: a task whose jobs read so. -/
def TaskR (w : World) (p : Int) (n : Nat) (f : Nat → Jb) (k : Ac) (x : Value) (w' : World) : Prop := ∃ s, x = tV p s k ∧ Jobs w' s n f ∧ Below w.heap.size w w'
theorem ac_eq {g o m d c t g' o' m' d' c' t' : Int} (h1 : g = g') (h2 : o = o') (h3 : m = m') (h4 : d = d') (h5 : c = c') (h6 : t = t') : (⟨g, o, m, d, c, t⟩ : Ac) = ⟨g', o', m', d', c', t'⟩ := by rw [h1, h2, h3, h4, h5, h6]
theorem ret_run {x : Value} {a b a' b' : Int} (h1 : a = a') (h2 : b = b') : Ending.returned (.tuple #[x, .int .i64 a, .int .i64 b, .int .i64 0]) = .returned (.tuple #[x, .int .i64 a', .int .i64 b', .int .i64 0]) := by rw [h1, h2]
theorem task_run {w w' : World} {p : Int} {s : Value} {g o m d c t : Int} {n n' : Nat} {f f' : Nat → Jb} {k : Ac} (hk : k = ⟨g, o, m, d, c, t⟩) (hn : n' = n) (hf : ∀ i, i < n → f i = f' i) (hj : Jobs w' s n f) (hb : Below w.heap.size w w') : TaskR w p n' f' k (tV p s ⟨g, o, m, d, c, t⟩) w' := by
  subst hk hn
  exact ⟨s, rfl, hj.congr hf, hb⟩
theorem jobs_tail {B n c4 : Nat} {W : World} {g : Nat} {F : Nat → Jb} (h : JobsO B W (.slice (some ⟨g, 0, none⟩) n c4) n F) (hn : n ≤ 9223372036854775807) : Jobs W (.slice (some ⟨g, 4, none⟩) (n - 1) (c4 - 1)) (n - 1) (fun i => F (i + 1)) := by
  refine ⟨_, _, rfl, by omega, fun j hj => ⟨g, 4, rfl, ?_⟩⟩
  obtain ⟨c0, c1, c2, c3⟩ := jbL_at F (show j + 1 < n by omega)
  have e := fun i (hi : i < 4) => World.ownsRow.cellAt h ((j + 1) * 4 + i) (by omega)
  have e0 := (e 0 (by omega)).trans c0
  have e1 := (e 1 (by omega)).trans c1
  have e2 := (e 2 (by omega)).trans c2
  have e3 := (e 3 (by omega)).trans c3
  rw [show (j + 1) * 4 + 0 = 4 + j * 4 by omega] at e0
  rw [show (j + 1) * 4 + 1 = 4 + j * 4 + 1 by omega] at e1
  rw [show (j + 1) * 4 + 2 = 4 + j * 4 + 2 by omega] at e2
  rw [show (j + 1) * 4 + 3 = 4 + j * 4 + 3 by omega] at e3
  exact ⟨e0, e1, e2, e3⟩
theorem jobs_none (W : World) (g : Option Addr) (m c : Nat) (F : Nat → Jb) (h : m = 0) : Jobs W (.slice g m c) m F := by
  subst h
  exact ⟨_, _, rfl, by omega, fun j hj => by omega⟩
/-- The task is a twin of its own, in its block, and has a job. -/
def Ran0 (w : World) (p : Int) (n : Nat) (f : Nat → Jb) (k : Ac) (wx : World) : Prop := ∃ g c4, HasT wx w.heap.size p (.slice (some ⟨g, 0, none⟩) n c4) k ∧ HasT wx (w.heap.size + 1) 0 (.slice none 0 0) kZ ∧ JobsO (w.heap.size + 2) wx (.slice (some ⟨g, 0, none⟩) n c4) n f ∧ Below w.heap.size w wx
theorem Ran0.made {w w4 : World} {p : Int} {n : Nat} {f : Nat → Jb} {k : Ac} {s : Value} {s4 : Option Addr} {c4 : Nat} (h1 : HasT w4 w.heap.size p s k) (h3 : HasT w4 (w.heap.size + 1) 0 (.slice none 0 0) kZ) (h4 : JobsO (w.heap.size + 2) w4 (.slice s4 n c4) n f) (h5 : Below w.heap.size w w4) (h0 : 0 < n) :
    Ran0 w p n f k ((((((((w4.setCell ⟨w.heap.size, 0, none⟩ (.int .i64 p)).setCell ⟨w.heap.size, 1, none⟩ (.slice s4 n c4)).setCell ⟨w.heap.size, 2, none⟩ (.int .i64 k.g)).setCell ⟨w.heap.size, 3, none⟩ (.int .i64 k.o)).setCell ⟨w.heap.size, 4, none⟩ (.int .i64 k.n)).setCell ⟨w.heap.size, 5, none⟩ (.int .i64 k.d)).setCell ⟨w.heap.size, 6, none⟩ (.int .i64 k.c)).setCell ⟨w.heap.size, 7, none⟩ (.int .i64 k.t)) := by
  obtain ⟨g, cap, e, _, _, _⟩ := own_block2 h4 h0
  cases e
  refine ⟨g, c4, HasT.set8 h1, ?_, ?_, ?_⟩
  · unfold HasT
    iterate 8 refine has_other ?_ _ _ (by show w.heap.size ≠ w.heap.size + 1; omega)
    exact h3
  · iterate 8 refine own_low ?_ _ _ (by show w.heap.size < w.heap.size + 2; omega)
    exact h4
  · iterate 8 refine below_low ?_ _ _ (Nat.le_refl _)
    exact h5
set_option maxHeartbeats 4000000 in
set_option maxRecDepth 100000 in
theorem rrun_ok (p : Int) (s : Value) (n : Nat) (f : Nat → Jb) (k : Ac) (now : Int) (w : World) (h : Jobs w s n f) (hv : okT p n f k) (hn : 0 ≤ now ∧ now < 1073741824) (h0 : 0 < n) (hg : k.g < 1073741824) :
    Calls Tryz.prog 72 #[tV p s k, .int .i64 now] w fun e w' => ∃ x, e = .returned (.tuple #[x, .int .i64 (runW (f 0)), .int .i64 (runL (f 0) now), .int .i64 0]) ∧ TaskR w p (runN n (f 0)) (runF f) (runK k (f 0) now) x w' := by
  have HV := Lib.hid (fun w (h : Jobs w s n f) => rvalid p s n f k w h)
  rw [ok_yes hv] at HV
  have HOK := Lib.hid hv
  clear hv
  have hnb : decide (now < 0) = false := decide_eq_false (by omega)
  have hnc : decide (1073741824 ≤ now) = false := decide_eq_false (by omega)
  have hz : decide (0 < n) = true := decide_eq_true h0
  have HJ := Lib.hid h
  obtain ⟨q, cap, rfl, _, _⟩ := h
  obtain ⟨kg, ko, kn, kd, kc, kt⟩ := k
  have hg2 : kg < 1073741824 := hg
  have hg3 : (kg == 1073741824) = false := by simp; omega
  clear hg
  obtain ⟨WA, hWA⟩ : ∃ WA, WA = (w.alloc (.cells #[.int .i64 p, .slice q n cap, .int .i64 kg, .int .i64 ko, .int .i64 kn, .int .i64 kd, .int .i64 kc, .int .i64 kt] KT)).alloc (.cells #[.int .i64 0, .slice none 0 0, .int .i64 0, .int .i64 0, .int .i64 0, .int .i64 0, .int .i64 0, .int .i64 0] KT) := ⟨_, rfl⟩
  have HB := Lib.hid (show Below w.heap.size w WA from by rw [hWA]; exact ((Below.refl _ _).alloc (Nat.le_refl _) _).alloc (by simp) _)
  have HA := Lib.hid (show HasT WA w.heap.size p (.slice q n cap) ⟨kg, ko, kn, kd, kc, kt⟩ ∧ HasT WA (w.heap.size + 1) 0 (.slice none 0 0) kZ ∧ WA.heap.size = w.heap.size + 2 from by
    rw [hWA]
    exact ⟨has_old (has_new w _ _ rfl) _, has_new _ _ _ (by simp), by simp⟩)
  have HW := Lib.hid hWA
  clear hWA
  go_enter Tryz.func72, Tryz.ntmps72
  go_wp2_with fail
  rw [← HW.out]
  refine (HV.out _ (HJ.out.below HB.out)).mono ?_
  rintro e w1 ⟨rfl, hb1⟩
  have HB1 := Lib.hid (bnext HB.out hb1)
  have HC1 := Lib.hid hb1
  obtain ⟨x0, x1, x2, x3, x4, x5, x6, x7⟩ := (HA.out.1.below hb1).cells
  obtain ⟨y0, y1, y2, y3, y4, y5, y6, y7⟩ := (HA.out.2.1.below hb1).cells
  have f1 : ∀ j, w1.frozen? ⟨w.heap.size + 1, j, none⟩ = false := fun j => has_free (HA.out.2.1.below hb1) j
  clear hb1
  go_wp2_with fail
  refine (rready p q n cap ⟨kg, ko, kn, kd, kc, kt⟩ _).mono ?_
  rintro e w3 ⟨rfl, hb3⟩
  rw [hz]
  have HB3 := Lib.hid (bnext HB1.out hb3)
  have hc3 := bnext HC1.out hb3
  clear x0 x1 x2 x3 x4 x5 x6 x7 y0 y1 y2 y3 y4 y5 y6 y7 f1
  obtain ⟨x0, x1, x2, x3, x4, x5, x6, x7⟩ := (HA.out.1.below hc3).cells
  obtain ⟨y0, y1, y2, y3, y4, y5, y6, y7⟩ := (HA.out.2.1.below hc3).cells
  have f1 : ∀ j, w3.frozen? ⟨w.heap.size + 1, j, none⟩ = false := fun j => has_free (HA.out.2.1.below hc3) j
  have HC3 := Lib.hid hc3
  clear hb3 hc3
  go_upto_region 9 with fail
  go_cut [] (fun wx => Ran0 w p n f ⟨kg, ko, kn, kd, kc, kt⟩ wx)
  case first =>
    go_wp2_with fail
    refine (rtwin p (.slice q n cap) n f ⟨kg, ko, kn, kd, kc, kt⟩ _ (HJ.out.below HB3.out) (by have := HOK.out.2.1; omega)).mono ?_
    rintro e w4 ⟨x, rfl, s4, c4, rfl, ho4, hb4⟩
    have hc4 := bnext HC3.out hb4
    have HP := Lib.hid (Ran0.made (HA.out.1.below hc4) (HA.out.2.1.below hc4) (own_base2 ho4 (show w.heap.size + 2 ≤ w3.heap.size from by have := HC3.out.size; have := HA.out.2.2; omega)) (bnext HB3.out hb4) h0)
    clear x0 x1 x2 x3 x4 x5 x6 x7 y0 y1 y2 y3 y4 y5 y6 y7 f1
    obtain ⟨x0, x1, x2, x3, x4, x5, x6, x7⟩ := (HA.out.1.below hc4).cells
    obtain ⟨y0, y1, y2, y3, y4, y5, y6, y7⟩ := (HA.out.2.1.below hc4).cells
    have f1 : ∀ j, w4.frozen? ⟨w.heap.size + 1, j, none⟩ = false := fun j => has_free (HA.out.2.1.below hc4) j
    have f0 : ∀ j, w4.frozen? ⟨w.heap.size, j, none⟩ = false := fun j => has_free (HA.out.1.below hc4) j
    clear hb4 hc4 ho4
    go_wp2_with fail
    go_meet
    exact HP.out
  case rest =>
    obtain ⟨g, c4, h1, h2, h3, h4⟩ := hcut
    have hkj := HOK.out.2.2.1 0 h0
    have hkn := HOK.out.2.1
    obtain ⟨⟨_, ho1, hz3⟩, hd1, hd2, hd3⟩ := (okA_mk _ _ _ _ _ _).1 HOK.out.2.2.2
    have ho2 : 0 ≤ ko := by omega
    have ho3 : ko < 1073741824 := by omega
    obtain ⟨b0, b1, b2, b3⟩ := jbL_at f h0
    have e0 : wc.cell? ⟨g, 0, none⟩ = some (.int .i64 (f 0).l) := (World.ownsRow.cellAt h3 0 (by omega)).trans b0
    have e1 : wc.cell? ⟨g, 1, none⟩ = some (.int .i64 (f 0).c) := (World.ownsRow.cellAt h3 1 (by omega)).trans b1
    have e2 : wc.cell? ⟨g, 2, none⟩ = some (.int .i64 (f 0).a) := (World.ownsRow.cellAt h3 2 (by omega)).trans b2
    have e3 : wc.cell? ⟨g, 3, none⟩ = some (.int .i64 (f 0).d) := (World.ownsRow.cellAt h3 3 (by omega)).trans b3
    have S1 := Lib.hid (fun jb x y => St.ran h1 h2 h3 h4 jb x y)
    obtain ⟨x0, x1, x2, x3, x4, x5, x6, x7⟩ := h1.cells
    have f0 : ∀ j, wc.frozen? ⟨w.heap.size, j, none⟩ = false := fun j => has_free h1 j
    have f2 : ∀ j, wc.frozen? ⟨g, j, none⟩ = false := fun j => World.ownsRow.frozenAt h3 j
    have hgs : w.heap.size + 2 ≤ g ∧ g < wc.heap.size := World.ownsRow.lt h3 g rfl
    obtain ⟨hg1, hg4⟩ := hgs
    have hn0 : (0 : Int) < (n : Int) := by omega
    obtain ⟨jb, hjb⟩ : ∃ jb, jb = f 0 := ⟨_, rfl⟩
    rw [← hjb] at e0 e1 e2 e3 hkj
    obtain ⟨l, c, a, d⟩ := jb
    have HF0 := Lib.hid (show f 0 = ⟨l, c, a, d⟩ from hjb.symm)
    have HNC := Lib.hid (show n ≤ c4 from by obtain ⟨_, _, e, h, _⟩ := own_block2 h3 h0; cases e; exact h)
    dsimp only at e0 e1 e2 e3
    clear hjb
    obtain ⟨⟨l1, l2⟩, ⟨c1', c2'⟩, ⟨a1', a2'⟩, d1', d2'⟩ := (okJ_mk _ _ _ _).1 hkj
    have hsl : w.heap.size < wc.heap.size := by omega
    have hsl1 : w.heap.size + 1 < wc.heap.size := by omega
    clear h1 h2 h3 h4 b0 b1 b2 b3 hkj ho1 hz3
    by_cases hc0 : 0 < c
    · skip
      have S7 := Lib.hid (S1.out ⟨l - 1, c - 1, a, d⟩ (kg + 1) (ko + 1))
      go_upto_region 17 with fail
      go_cut [8] (fun jv wx => ∃ J, jv = .pointer (some ⟨J, 0, none⟩) ∧ St w p (.slice (some ⟨g, 0, none⟩) n c4) ⟨kg + 1, ko + 1, kn, kd, kc, kt⟩ J ⟨l - 1, c - 1, a, d⟩ g n c4 (upd f 0 ⟨l - 1, c - 1, a, d⟩) wx)
      case first =>
        go_wp2_with fail
        go_meet
        exact ⟨_, rfl, S7.out⟩
      case rest =>
        obtain ⟨wc0, rfl, hcut⟩ := hcut
        have S8 := Lib.hid hcut
        obtain ⟨x0, x1, x2, x3, x4, x5, x6, x7⟩ := hcut.t.cells
        obtain ⟨y0, y1, y2, y3, y4, y5, y6, y7⟩ := hcut.r.cells
        obtain ⟨j0, j1, j2, j3⟩ := hcut.j.cells
        have f3 : ∀ j, wc.frozen? ⟨w.heap.size, j, none⟩ = false := fun j => has_free hcut.t j
        have f4 : ∀ j, wc.frozen? ⟨w.heap.size + 1, j, none⟩ = false := fun j => has_free hcut.r j
        have hJl : w.heap.size + 2 ≤ wc0 := hcut.Jl
        have hsw : w.heap.size + 1 < wc.heap.size := has_lt hcut.r
        clear hcut S7 S1 f0 f2 e0 e1 e2 e3
        by_cases q1 : l = 1
        · have q2 : (l - 1 == 0) = true := by simp; omega
          have HRF := Lib.hid (show runF f = fun i => f (i + 1) from if_pos (.inl (by rw [HF0.out]; exact q1)))
          go_wp2_with fail
          all_goals
            apply bodyPost_ret
            · simp [results, Tryz.results72, go_sem, y0, y1, y2, y3, y4, y5, y6, y7]
              exact rfl
            · rfl
            · rw [HF0.out]
              refine ⟨_, ret_run (by unfold runW; dsimp only; (repeat' split) <;> omega) (by unfold runL; dsimp only; (repeat' split) <;> omega), ?_⟩
              have hK0 := HNC.out
              first
                | (refine task_run (ac_eq rfl rfl rfl ?_ ?_ ?_) ?_ (fun i hi => rfl) (jobs_none _ _ _ _ (runF f) (by omega)) ?_)
                | (refine task_run (ac_eq rfl rfl rfl ?_ ?_ ?_) ?_ (fun i hi => ?_) (jobs_tail (B := w.heap.size + 2) (F := upd f 0 ⟨l - 1, c - 1, a, d⟩) ?_ (by omega)) ?_)
                | (refine task_run (ac_eq rfl rfl rfl ?_ ?_ ?_) ?_ (fun i hi => ?_) (own_jobs (B := w.heap.size + 2) (f := upd f 0 ⟨l - 1, c - 1, a, d⟩) ?_ (by omega)) ?_)
              all_goals first
                | (dsimp only; (repeat' split) <;> omega)
                | (unfold runN; dsimp only; (repeat' split) <;> omega)
                | (rw [HRF.out]; done)
                | (rw [HRF.out]; exact upd_ne _ (by omega))
                | (refine own_low ?_ _ _ (by first | (simp; done) | (simp; omega)); repeat (first | (with_reducible exact S8.out.row) | refine own_low ?_ _ _ (by first | (simp; done) | (simp; omega))))
                | (repeat (first | (with_reducible exact S8.out.below) | refine below_low ?_ _ _ (by first | (simp; done) | (simp; omega))))
        · have q2 : (l - 1 == 0) = false := by simp; omega
          by_cases q3 : c = 1
          · have q4 : (c - 1 == 0) = true := by simp; omega
            have HRF := Lib.hid (show runF f = fun i => f (i + 1) from if_pos (.inr (by rw [HF0.out]; exact q3)))
            go_wp2_with fail
            all_goals
              apply bodyPost_ret
              · simp [results, Tryz.results72, go_sem, y0, y1, y2, y3, y4, y5, y6, y7]
                exact rfl
              · rfl
              · rw [HF0.out]
                refine ⟨_, ret_run (by unfold runW; dsimp only; (repeat' split) <;> omega) (by unfold runL; dsimp only; (repeat' split) <;> omega), ?_⟩
                have hK0 := HNC.out
                first
                  | (refine task_run (ac_eq rfl rfl rfl ?_ ?_ ?_) ?_ (fun i hi => rfl) (jobs_none _ _ _ _ (runF f) (by omega)) ?_)
                  | (refine task_run (ac_eq rfl rfl rfl ?_ ?_ ?_) ?_ (fun i hi => ?_) (jobs_tail (B := w.heap.size + 2) (F := upd f 0 ⟨l - 1, c - 1, a, d⟩) ?_ (by omega)) ?_)
                  | (refine task_run (ac_eq rfl rfl rfl ?_ ?_ ?_) ?_ (fun i hi => ?_) (own_jobs (B := w.heap.size + 2) (f := upd f 0 ⟨l - 1, c - 1, a, d⟩) ?_ (by omega)) ?_)
                all_goals first
                  | (dsimp only; (repeat' split) <;> omega)
                  | (unfold runN; dsimp only; (repeat' split) <;> omega)
                  | (rw [HRF.out]; done)
                  | (rw [HRF.out]; exact upd_ne _ (by omega))
                  | (refine own_low ?_ _ _ (by first | (simp; done) | (simp; omega)); repeat (first | (with_reducible exact S8.out.row) | refine own_low ?_ _ _ (by first | (simp; done) | (simp; omega))))
                  | (repeat (first | (with_reducible exact S8.out.below) | refine below_low ?_ _ _ (by first | (simp; done) | (simp; omega))))
          · have q4 : (c - 1 == 0) = false := by simp; omega
            have HRF := Lib.hid (show runF f = upd f 0 ⟨l - 1, c - 1, a, d⟩ from by
              unfold runF
              rw [HF0.out, if_neg (by dsimp only; omega)]
              unfold runJ
              dsimp only
              rw [if_pos hc0])
            go_wp2_with fail
            all_goals
              apply bodyPost_ret
              · simp [results, Tryz.results72, go_sem, y0, y1, y2, y3, y4, y5, y6, y7]
                exact rfl
              · rfl
              · rw [HF0.out]
                refine ⟨_, ret_run (by unfold runW; dsimp only; (repeat' split) <;> omega) (by unfold runL; dsimp only; (repeat' split) <;> omega), ?_⟩
                have hK0 := HNC.out
                first
                  | (refine task_run (ac_eq rfl rfl rfl ?_ ?_ ?_) ?_ (fun i hi => rfl) (jobs_none _ _ _ _ (runF f) (by omega)) ?_)
                  | (refine task_run (ac_eq rfl rfl rfl ?_ ?_ ?_) ?_ (fun i hi => ?_) (jobs_tail (B := w.heap.size + 2) (F := upd f 0 ⟨l - 1, c - 1, a, d⟩) ?_ (by omega)) ?_)
                  | (refine task_run (ac_eq rfl rfl rfl ?_ ?_ ?_) ?_ (fun i hi => ?_) (own_jobs (B := w.heap.size + 2) (f := upd f 0 ⟨l - 1, c - 1, a, d⟩) ?_ (by omega)) ?_)
                all_goals first
                  | (dsimp only; (repeat' split) <;> omega)
                  | (unfold runN; dsimp only; (repeat' split) <;> omega)
                  | (rw [HRF.out]; done)
                  | (rw [HRF.out]; exact upd_ne _ (by omega))
                  | (refine own_low ?_ _ _ (by first | (simp; done) | (simp; omega)); repeat (first | (with_reducible exact S8.out.row) | refine own_low ?_ _ _ (by first | (simp; done) | (simp; omega))))
                  | (repeat (first | (with_reducible exact S8.out.below) | refine below_low ?_ _ _ (by first | (simp; done) | (simp; omega))))
    · have S7 := Lib.hid (S1.out ⟨l - 1, c, a, d⟩ (kg + 1) (ko + 1))
      go_upto_region 17 with fail
      go_cut [8] (fun jv wx => ∃ J, jv = .pointer (some ⟨J, 0, none⟩) ∧ St w p (.slice (some ⟨g, 0, none⟩) n c4) ⟨kg + 1, ko + 1, kn, kd, kc, kt⟩ J ⟨l - 1, c, a, d⟩ g n c4 (upd f 0 ⟨l - 1, c, a, d⟩) wx)
      case first =>
        go_wp2_with fail
        go_meet
        exact ⟨_, rfl, S7.out⟩
      case rest =>
        obtain ⟨wc0, rfl, hcut⟩ := hcut
        have S8 := Lib.hid hcut
        obtain ⟨x0, x1, x2, x3, x4, x5, x6, x7⟩ := hcut.t.cells
        obtain ⟨y0, y1, y2, y3, y4, y5, y6, y7⟩ := hcut.r.cells
        obtain ⟨j0, j1, j2, j3⟩ := hcut.j.cells
        have f3 : ∀ j, wc.frozen? ⟨w.heap.size, j, none⟩ = false := fun j => has_free hcut.t j
        have f4 : ∀ j, wc.frozen? ⟨w.heap.size + 1, j, none⟩ = false := fun j => has_free hcut.r j
        have hJl : w.heap.size + 2 ≤ wc0 := hcut.Jl
        have hsw : w.heap.size + 1 < wc.heap.size := has_lt hcut.r
        clear hcut S7 S1 f0 f2 e0 e1 e2 e3
        by_cases q1 : l = 1
        · have q2 : (l - 1 == 0) = true := by simp; omega
          have HRF := Lib.hid (show runF f = fun i => f (i + 1) from if_pos (.inl (by rw [HF0.out]; exact q1)))
          go_wp2_with fail
          all_goals
            apply bodyPost_ret
            · simp [results, Tryz.results72, go_sem, y0, y1, y2, y3, y4, y5, y6, y7]
              exact rfl
            · rfl
            · rw [HF0.out]
              refine ⟨_, ret_run (by unfold runW; dsimp only; (repeat' split) <;> omega) (by unfold runL; dsimp only; (repeat' split) <;> omega), ?_⟩
              have hK0 := HNC.out
              first
                | (refine task_run (ac_eq rfl rfl rfl ?_ ?_ ?_) ?_ (fun i hi => rfl) (jobs_none _ _ _ _ (runF f) (by omega)) ?_)
                | (refine task_run (ac_eq rfl rfl rfl ?_ ?_ ?_) ?_ (fun i hi => ?_) (jobs_tail (B := w.heap.size + 2) (F := upd f 0 ⟨l - 1, c, a, d⟩) ?_ (by omega)) ?_)
                | (refine task_run (ac_eq rfl rfl rfl ?_ ?_ ?_) ?_ (fun i hi => ?_) (own_jobs (B := w.heap.size + 2) (f := upd f 0 ⟨l - 1, c, a, d⟩) ?_ (by omega)) ?_)
              all_goals first
                | (dsimp only; (repeat' split) <;> omega)
                | (unfold runN; dsimp only; (repeat' split) <;> omega)
                | (rw [HRF.out]; done)
                | (rw [HRF.out]; exact upd_ne _ (by omega))
                | (refine own_low ?_ _ _ (by first | (simp; done) | (simp; omega)); repeat (first | (with_reducible exact S8.out.row) | refine own_low ?_ _ _ (by first | (simp; done) | (simp; omega))))
                | (repeat (first | (with_reducible exact S8.out.below) | refine below_low ?_ _ _ (by first | (simp; done) | (simp; omega))))
        · have q2 : (l - 1 == 0) = false := by simp; omega
          have HRF := Lib.hid (show runF f = upd f 0 ⟨l - 1, c, a, d⟩ from by
              unfold runF
              rw [HF0.out, if_neg (by dsimp only; omega)]
              unfold runJ
              dsimp only
              rw [if_neg hc0])
          go_wp2_with fail
          all_goals
            apply bodyPost_ret
            · simp [results, Tryz.results72, go_sem, y0, y1, y2, y3, y4, y5, y6, y7]
              exact rfl
            · rfl
            · rw [HF0.out]
              refine ⟨_, ret_run (by unfold runW; dsimp only; (repeat' split) <;> omega) (by unfold runL; dsimp only; (repeat' split) <;> omega), ?_⟩
              have hK0 := HNC.out
              first
                | (refine task_run (ac_eq rfl rfl rfl ?_ ?_ ?_) ?_ (fun i hi => rfl) (jobs_none _ _ _ _ (runF f) (by omega)) ?_)
                | (refine task_run (ac_eq rfl rfl rfl ?_ ?_ ?_) ?_ (fun i hi => ?_) (jobs_tail (B := w.heap.size + 2) (F := upd f 0 ⟨l - 1, c, a, d⟩) ?_ (by omega)) ?_)
                | (refine task_run (ac_eq rfl rfl rfl ?_ ?_ ?_) ?_ (fun i hi => ?_) (own_jobs (B := w.heap.size + 2) (f := upd f 0 ⟨l - 1, c, a, d⟩) ?_ (by omega)) ?_)
              all_goals first
                | (dsimp only; (repeat' split) <;> omega)
                | (unfold runN; dsimp only; (repeat' split) <;> omega)
                | (rw [HRF.out]; done)
                | (rw [HRF.out]; exact upd_ne _ (by omega))
                | (refine own_low ?_ _ _ (by first | (simp; done) | (simp; omega)); repeat (first | (with_reducible exact S8.out.row) | refine own_low ?_ _ _ (by first | (simp; done) | (simp; omega))))
                | (repeat (first | (with_reducible exact S8.out.below) | refine below_low ?_ _ _ (by first | (simp; done) | (simp; omega))))
/-- The error of a run. -/
def runE (p : Int) (n : Nat) (f : Nat → Jb) (k : Ac) (now : Int) : Int :=
  if ¬ okT p n f k then 270 else if ¬ (0 ≤ now ∧ now < 1073741824) then 1 else if n = 0 then 50 else if k.g = 1073741824 then 60 else 0
theorem zero_taskR {w w' : World} (f : Nat → Jb) (hb : Below w.heap.size w w') : TaskR w 0 0 f kZ zT w' := ⟨_, rfl, jobs_none _ _ _ _ _ rfl, hb⟩
/-- Run, every way. -/
theorem rrun_any (p : Int) (s : Value) (n : Nat) (f : Nat → Jb) (k : Ac) (now : Int) (w : World) (h : Jobs w s n f) :
    Calls Tryz.prog 72 #[tV p s k, .int .i64 now] w fun e w' => ∃ x, e = .returned (.tuple #[x, .int .i64 (if runE p n f k now = 0 then runW (f 0) else 0), .int .i64 (if runE p n f k now = 0 then runL (f 0) now else 0), .int .i64 (runE p n f k now)]) ∧
      TaskR w (if runE p n f k now = 0 then p else 0) (if runE p n f k now = 0 then runN n (f 0) else 0) (runF f) (if runE p n f k now = 0 then runK k (f 0) now else kZ) x w' := by
  by_cases hv : okT p n f k
  · by_cases hn : 0 ≤ now ∧ now < 1073741824
    · by_cases h0 : n = 0
      · have hE : runE p n f k now = 50 := by unfold runE; rw [if_neg (fun h => h hv), if_neg (fun h => h hn), if_pos h0]
        rw [hE]
        exact (rrun_none p s n f k now w h hv hn h0).mono fun e w' ⟨he, hb⟩ => ⟨_, he, zero_taskR _ hb⟩
      · by_cases hg : k.g = 1073741824
        · have hE : runE p n f k now = 60 := by unfold runE; rw [if_neg (fun h => h hv), if_neg (fun h => h hn), if_neg h0, if_pos hg]
          rw [hE]
          exact (rrun_time p s n f k now w h hv hn (by omega) hg).mono fun e w' ⟨he, hb⟩ => ⟨_, he, zero_taskR _ hb⟩
        · have hE : runE p n f k now = 0 := by unfold runE; rw [if_neg (fun h => h hv), if_neg (fun h => h hn), if_neg h0, if_neg hg]
          rw [hE]
          have hk := hv.2.2.2.1.1.2
          exact (rrun_ok p s n f k now w h hv hn (by omega) (by omega)).mono fun e w' ⟨x, he, hb⟩ => ⟨x, he, hb⟩
    · have hE : runE p n f k now = 1 := by unfold runE; rw [if_neg (fun h => h hv), if_pos hn]
      rw [hE]
      by_cases h1 : now < 0
      · exact (rrun_arg1 p s n f k now w h hv h1).mono fun e w' ⟨he, hb⟩ => ⟨_, he, zero_taskR _ hb⟩
      · exact (rrun_arg2 p s n f k now w h hv h1 (by omega)).mono fun e w' ⟨he, hb⟩ => ⟨_, he, zero_taskR _ hb⟩
  · have hE : runE p n f k now = 270 := if_pos hv
    rw [hE]
    exact (rrun_state p s n f k now w h hv).mono fun e w' ⟨he, hb⟩ => ⟨_, he, zero_taskR _ hb⟩
end Go.Proofs.YtedgchafligndaaGreat
/- The program's task: which numbers, jobs and accounts may be, New, Ready, Drop, what a tick makes of a job; no condition but those that each row names. -/
namespace Go.Proofs.YtedgchafligndaaGreat
open Go.RowKit Tsk

theorem pprio (n : Int) (w : World) : Calls Tryz.prog 52 #[.int .i64 n] w fun e w' => e = .returned (.bool (decide (0 ≤ n ∧ n ≤ 31))) ∧ w = w' := by
  by_cases h1 : 0 ≤ n
  · by_cases h2 : n ≤ 31
    · rw [decide_eq_true (p := 0 ≤ n ∧ n ≤ 31) ⟨h1, h2⟩]
      go_enter Tryz.func52, Tryz.ntmps52
      go_wp2
      go_ret
      exact ⟨rfl, rfl⟩
    · rw [decide_eq_false (p := 0 ≤ n ∧ n ≤ 31) (fun h => h2 h.2)]
      have h4 : decide (n ≤ 31) = false := decide_eq_false h2
      go_enter Tryz.func52, Tryz.ntmps52
      go_wp2
      go_ret
      exact ⟨rfl, rfl⟩
  · rw [decide_eq_false (p := 0 ≤ n ∧ n ≤ 31) (fun h => h1 h.1)]
    have h4 : decide (0 ≤ n) = false := decide_eq_false h1
    go_enter Tryz.func52, Tryz.ntmps52
    go_wp2
    go_ret
    exact ⟨rfl, rfl⟩
theorem ptime (n : Int) (w : World) : Calls Tryz.prog 75 #[.int .i64 n] w fun e w' => e = .returned (.bool (decide (0 ≤ n ∧ n ≤ 1073741824))) ∧ w = w' := by
  by_cases h1 : 0 ≤ n
  · by_cases h2 : n ≤ 1073741824
    · rw [decide_eq_true (p := 0 ≤ n ∧ n ≤ 1073741824) ⟨h1, h2⟩]
      go_enter Tryz.func75, Tryz.ntmps75
      go_wp2
      go_ret
      exact ⟨rfl, rfl⟩
    · rw [decide_eq_false (p := 0 ≤ n ∧ n ≤ 1073741824) (fun h => h2 h.2)]
      have h4 : decide (n ≤ 1073741824) = false := decide_eq_false h2
      go_enter Tryz.func75, Tryz.ntmps75
      go_wp2
      go_ret
      exact ⟨rfl, rfl⟩
  · rw [decide_eq_false (p := 0 ≤ n ∧ n ≤ 1073741824) (fun h => h1 h.1)]
    have h4 : decide (0 ≤ n) = false := decide_eq_false h1
    go_enter Tryz.func75, Tryz.ntmps75
    go_wp2
    go_ret
    exact ⟨rfl, rfl⟩
set_option maxHeartbeats 1000000 in
theorem pjob (j : Jb) (w : World) : Calls Tryz.prog 54 #[jV j] w fun e w' => e = .returned (.bool (decide (okJ j))) ∧ Below w.heap.size w w' := by
  obtain ⟨l, c, a, d⟩ := j
  have HB := Lib.hid (show Below w.heap.size w (w.alloc (.cells #[.int .i64 l, .int .i64 c, .int .i64 a, .int .i64 d] JT)) from (Below.refl _ _).alloc (Nat.le_refl _) _)
  go_enter Tryz.func54, Tryz.ntmps54
  go_wp2_with (go_at_call 75; refine (ptime _ _).mono ?_; rintro e w1 ⟨rfl, rfl⟩)
  all_goals (go_ret; exact ⟨ret_bool (by first | exact (decide_eq_false (by rw [okJ_mk]; omega)).symm | exact (decide_eq_true (by rw [okJ_mk]; omega)).symm | (have e : okJ ⟨l, c, a, d⟩ ↔ (0 ≤ d ∧ d ≤ 1073741824) := (by rw [okJ_mk]; omega)); simp [e]), HB.out⟩)
abbrev kV (k : Ac) : Value := .agg #[.int .i64 k.g, .int .i64 k.o, .int .i64 k.n, .int .i64 k.d, .int .i64 k.c, .int .i64 k.t]
set_option maxHeartbeats 1000000 in
theorem pacc_ok (k : Ac) (w : World) (h : okA k) : Calls Tryz.prog 53 #[kV k] w fun e w' => e = .returned (.bool true) ∧ Below w.heap.size w w' := by
  obtain ⟨g, o, n, d, c, t⟩ := k
  have HB := Lib.hid (show Below w.heap.size w (w.alloc (.cells #[.int .i64 g, .int .i64 o, .int .i64 n, .int .i64 d, .int .i64 c, .int .i64 t] 30)) from (Below.refl _ _).alloc (Nat.le_refl _) _)
  obtain ⟨⟨⟨b0, b1⟩, rfl, rfl⟩, ⟨b2, b3⟩, ⟨b4, b5⟩, b6, b7⟩ := (okA_mk _ _ _ _ _ _).1 h
  have w1 : IntKind.i64.wrap (o - c) = o - c := IntWalk.i64_in _ (by omega)
  have w2 : IntKind.i64.wrap (d + c) = d + c := IntWalk.i64_in _ (by omega)
  have b8 : d ≤ o - c := by omega
  clear h
  go_enter Tryz.func53, Tryz.ntmps53
  go_wp2_with (go_at_call 75; refine (ptime _ _).mono ?_; rintro e w1 ⟨rfl, rfl⟩; rw [decide_eq_true (by omega)])
  go_ret
  exact ⟨rfl, HB.out⟩
set_option maxHeartbeats 2000000 in
theorem pacc_no (k : Ac) (w : World) (hc : k.c ≤ 9223372036854775807) (h : ¬ okA k) : Calls Tryz.prog 53 #[kV k] w fun e w' => e = .returned (.bool false) ∧ Below w.heap.size w w' := by
  obtain ⟨g, o, n, d, c, t⟩ := k
  have HB := Lib.hid (show Below w.heap.size w (w.alloc (.cells #[.int .i64 g, .int .i64 o, .int .i64 n, .int .i64 d, .int .i64 c, .int .i64 t] 30)) from (Below.refl _ _).alloc (Nat.le_refl _) _)
  rw [okA_mk] at h
  dsimp only at hc
  by_cases hg : 0 ≤ g ∧ g ≤ 1073741824
  · obtain ⟨hg0, hg1⟩ := hg
    by_cases ho : o = g
    · subst ho
      by_cases hn : n = 0
      · subst hn
        by_cases hd : d < 0
        · clear h
          go_enter Tryz.func53, Tryz.ntmps53
          go_wp2_with (go_at_call 75; refine (ptime _ _).mono ?_; rintro e w1 ⟨rfl, rfl⟩; rw [decide_eq_true (by omega)])
          go_ret
          exact ⟨rfl, HB.out⟩
        · by_cases hc0 : c < 0
          · have hd' : decide (d < 0) = false := decide_eq_false hd
            clear h
            go_enter Tryz.func53, Tryz.ntmps53
            go_wp2_with (go_at_call 75; refine (ptime _ _).mono ?_; rintro e w1 ⟨rfl, rfl⟩; rw [decide_eq_true (by omega)])
            go_ret
            exact ⟨rfl, HB.out⟩
          · by_cases ht : t < 0
            · have hd' : decide (d < 0) = false := decide_eq_false hd
              have hc' : decide (c < 0) = false := decide_eq_false hc0
              clear h
              go_enter Tryz.func53, Tryz.ntmps53
              go_wp2_with (go_at_call 75; refine (ptime _ _).mono ?_; rintro e w1 ⟨rfl, rfl⟩; rw [decide_eq_true (by omega)])
              go_ret
              exact ⟨rfl, HB.out⟩
            · have hd' : decide (d < 0) = false := decide_eq_false hd
              have hc' : decide (c < 0) = false := decide_eq_false hc0
              have ht' : decide (t < 0) = false := decide_eq_false ht
              have w1 : IntKind.i64.wrap (o - c) = o - c := IntWalk.i64_in _ (by omega)
              by_cases h5 : d ≤ o - c
              · have w2 : IntKind.i64.wrap (d + c) = d + c := IntWalk.i64_in _ (by omega)
                have h6 : decide (t ≤ d + c) = false := decide_eq_false (by omega)
                clear h
                go_enter Tryz.func53, Tryz.ntmps53
                go_wp2_with (go_at_call 75; refine (ptime _ _).mono ?_; rintro e w1 ⟨rfl, rfl⟩; rw [decide_eq_true (by omega)])
                go_ret
                exact ⟨rfl, HB.out⟩
              · have h6 : decide (d ≤ o - c) = false := decide_eq_false h5
                clear h
                go_enter Tryz.func53, Tryz.ntmps53
                go_wp2_with (go_at_call 75; refine (ptime _ _).mono ?_; rintro e w1 ⟨rfl, rfl⟩; rw [decide_eq_true (by omega)])
                go_ret
                exact ⟨rfl, HB.out⟩
      · have hn' : (n != 0) = true := by simpa using hn
        clear h
        go_enter Tryz.func53, Tryz.ntmps53
        go_wp2_with (go_at_call 75; refine (ptime _ _).mono ?_; rintro e w1 ⟨rfl, rfl⟩; rw [decide_eq_true (by omega)])
        go_ret
        exact ⟨rfl, HB.out⟩
    · have ho' : (o != g) = true := by simpa using ho
      clear h
      go_enter Tryz.func53, Tryz.ntmps53
      go_wp2_with (go_at_call 75; refine (ptime _ _).mono ?_; rintro e w1 ⟨rfl, rfl⟩; rw [decide_eq_true (by omega)])
      go_ret
      exact ⟨rfl, HB.out⟩
  · clear h
    go_enter Tryz.func53, Tryz.ntmps53
    go_wp2_with (go_at_call 75; refine (ptime _ _).mono ?_; rintro e w1 ⟨rfl, rfl⟩; rw [decide_eq_false hg])
    go_ret
    exact ⟨rfl, HB.out⟩
theorem pacc (k : Ac) (w : World) (hc : k.c ≤ 9223372036854775807) : Calls Tryz.prog 53 #[kV k] w fun e w' => e = .returned (.bool (decide (okA k))) ∧ Below w.heap.size w w' := by
  by_cases h : okA k
  · rw [decide_eq_true h]; exact pacc_ok k w h
  · rw [decide_eq_false h]; exact pacc_no k w hc h
theorem pnew_ok (p : Int) (w : World) (h : 0 ≤ p ∧ p ≤ 31) : Calls Tryz.prog 46 #[.int .i64 p] w fun e w' => e = .returned (.tuple #[tV p (.slice none 0 0) kZ, .nilIface]) ∧ Below w.heap.size w w' := by
  go_enter Tryz.func46, Tryz.ntmps46
  go_wp2_with (go_at_call 52; refine (pprio _ _).mono ?_; rintro e w1 ⟨rfl, rfl⟩; rw [decide_eq_true h])
  exact bodyPost_ret (v := .tuple #[tV p (.slice none 0 0) kZ, .nilIface]) (by simp [results, Tryz.results46, go_sem]) rfl ⟨rfl, (by repeat (first | exact Below.refl _ _ | (with_reducible assumption) | refine Below.drew ?_ | (refine Below.alloc ?_ (by first | exact Nat.le_refl _ | omega | (simp; done) | (simp; omega)) _) | (refine Below.setCell ?_ (by first | omega | (simp; done) | (simp; omega)) _)))⟩
theorem pnew_no (p : Int) (w : World) (h : ¬ (0 ≤ p ∧ p ≤ 31)) : Calls Tryz.prog 46 #[.int .i64 p] w fun e w' => e = .returned (.tuple #[zT, errV 2]) ∧ Below w.heap.size w w' := by
  go_enter Tryz.func46, Tryz.ntmps46
  go_wp2_with (go_at_call 52; refine (pprio _ _).mono ?_; rintro e w1 ⟨rfl, rfl⟩; rw [decide_eq_false h])
  exact bodyPost_ret (v := .tuple #[zT, .iface 65 (.int .i64 2)]) (by simp [results, Tryz.results46, go_sem]) rfl ⟨rfl, (by repeat (first | exact Below.refl _ _ | (with_reducible assumption) | refine Below.drew ?_ | (refine Below.alloc ?_ (by first | exact Nat.le_refl _ | omega | (simp; done) | (simp; omega)) _) | (refine Below.setCell ?_ (by first | omega | (simp; done) | (simp; omega)) _)))⟩
theorem pready (p : Int) (s : Option Addr) (n cap : Nat) (k : Ac) (w : World) : Calls Tryz.prog 66 #[tV p (.slice s n cap) k] w fun e w' => e = .returned (.bool (decide (0 < n))) ∧ Below w.heap.size w w' := by
  go_enter Tryz.func66, Tryz.ntmps66
  go_wp2
  go_ret
  exact ⟨rfl, (Below.refl _ _).alloc (Nat.le_refl _) _⟩
/-- How many ticks a job can still be given: the program says it by a minimum. -/
theorem pleft (j : Jb) (w : World) (h : okJ j) : Calls Tryz.prog 94 #[jV j] w fun e w' => e = .returned (.int .i64 (need j)) ∧ Below w.heap.size w w' := by
  obtain ⟨l, c, a, d⟩ := j
  obtain ⟨⟨l0, l1⟩, ⟨c0, c1⟩, _, _⟩ := (okJ_mk _ _ _ _).1 h
  by_cases hc : c = 0
  · subst hc
    have e : need ⟨l, 0, a, d⟩ = l := if_neg (by dsimp only; omega)
    rw [e]
    clear e h
    go_enter Tryz.func94, Tryz.ntmps94
    go_wp2
    go_ret
    exact ⟨rfl, (Below.refl _ _).alloc (Nat.le_refl _) _⟩
  · have hc' : (c == 0) = false := by simpa using hc
    have e : need ⟨l, c, a, d⟩ = min l c := by unfold need; dsimp only; split <;> omega
    rw [e]
    clear e h
    go_enter Tryz.func94, Tryz.ntmps94
    go_wp2
    all_goals (go_ret; exact ⟨ret_int (by omega), (Below.refl _ _).alloc (Nat.le_refl _) _⟩)
theorem pworked (j : Jb) (w : World) (h : okJ j) : Calls Tryz.prog 96 #[jV j] w fun e w' => e = .returned (jV (runJ j)) ∧ Below w.heap.size w w' := by
  obtain ⟨l, c, a, d⟩ := j
  obtain ⟨⟨l0, l1⟩, ⟨c0, c1⟩, _, _⟩ := (okJ_mk _ _ _ _).1 h
  have w1 : IntKind.i64.wrap (l - 1) = l - 1 := IntWalk.i64_in _ (by omega)
  have w2 : IntKind.i64.wrap (c - 1) = c - 1 := IntWalk.i64_in _ (by omega)
  by_cases hc : 0 < c
  · have e : runJ ⟨l, c, a, d⟩ = ⟨l - 1, c - 1, a, d⟩ := by unfold runJ; dsimp only; rw [if_pos hc]
    rw [e]
    clear e h
    go_enter Tryz.func96, Tryz.ntmps96
    go_wp2
    refine bodyPost_ret (v := jV ⟨l - 1, c - 1, a, d⟩) (by simp [results, Tryz.results96, go_sem]) rfl ⟨rfl, (by repeat (first | exact Below.refl _ _ | (with_reducible assumption) | refine Below.drew ?_ | (refine Below.alloc ?_ (by first | exact Nat.le_refl _ | omega | (simp; done) | (simp; omega)) _) | (refine Below.setCell ?_ (by first | omega | (simp; done) | (simp; omega)) _)))⟩
  · have hc' : decide (0 < c) = false := decide_eq_false hc
    have e : runJ ⟨l, c, a, d⟩ = ⟨l - 1, c, a, d⟩ := by unfold runJ; dsimp only; rw [if_neg hc]
    rw [e]
    clear e h
    go_enter Tryz.func96, Tryz.ntmps96
    go_wp2
    refine bodyPost_ret (v := jV ⟨l - 1, c, a, d⟩) (by simp [results, Tryz.results96, go_sem]) rfl ⟨rfl, (by repeat (first | exact Below.refl _ _ | (with_reducible assumption) | refine Below.drew ?_ | (refine Below.alloc ?_ (by first | exact Nat.le_refl _ | omega | (simp; done) | (simp; omega)) _) | (refine Below.setCell ?_ (by first | omega | (simp; done) | (simp; omega)) _)))⟩
/-- How late a job ends. -/
def lateS (j : Jb) (end_ : Int) : Int := if j.d = 0 then 0 else max 0 (end_ - j.a - j.d)
theorem plate (j : Jb) (z : Int) (w : World) (h : okJ j) (h0 : 0 ≤ z) (h1 : z ≤ 1073741824) : Calls Tryz.prog 98 #[jV j, .int .i64 z] w fun e w' => e = .returned (.int .i64 (lateS j z)) ∧ Below w.heap.size w w' := by
  obtain ⟨l, c, a, d⟩ := j
  obtain ⟨_, _, ⟨a0, a1⟩, ⟨d0, d1⟩⟩ := (okJ_mk _ _ _ _).1 h
  have w1 : IntKind.i64.wrap (z - a) = z - a := IntWalk.i64_in _ (by omega)
  have w2 : IntKind.i64.wrap (z - a - d) = z - a - d := IntWalk.i64_in _ (by omega)
  by_cases hd : d = 0
  · subst hd
    have e : lateS ⟨l, c, a, 0⟩ z = 0 := if_pos rfl
    rw [e]
    clear e h
    go_enter Tryz.func98, Tryz.ntmps98
    go_wp2
    go_ret
    exact ⟨rfl, (Below.refl _ _).alloc (Nat.le_refl _) _⟩
  · have hd' : (d == 0) = false := by simpa using hd
    have e : lateS ⟨l, c, a, d⟩ z = max 0 (z - a - d) := if_neg hd
    rw [e]
    clear e h
    go_enter Tryz.func98, Tryz.ntmps98
    go_wp2
    all_goals (go_ret; exact ⟨ret_int (by omega), (Below.refl _ _).alloc (Nat.le_refl _) _⟩)
/-- An account in which one more job has ended. -/
def endedK (k : Ac) (what late : Int) : Ac := ⟨k.g, k.o, k.n, if what = 1 then k.d + 1 else k.d, if what = 1 then k.c else k.c + 1, if 0 < late then k.t + 1 else k.t⟩
set_option maxHeartbeats 1000000 in
theorem pended (k : Ac) (what late : Int) (w : World) (h0 : 0 ≤ k.d ∧ k.d ≤ 1073741824) (h1 : 0 ≤ k.c ∧ k.c ≤ 1073741824) (h2 : 0 ≤ k.t ∧ k.t ≤ 2147483648) :
    Calls Tryz.prog 99 #[kV k, .int .i64 what, .int .i64 late] w fun e w' => e = .returned (kV (endedK k what late)) ∧ Below w.heap.size w w' := by
  obtain ⟨g, o, n, d, c, t⟩ := k
  dsimp only at h0 h1 h2
  obtain ⟨d0, d1⟩ := h0
  obtain ⟨c0, c1⟩ := h1
  obtain ⟨t0, t1⟩ := h2
  have w1 : IntKind.i64.wrap (d + 1) = d + 1 := IntWalk.i64_in _ (by omega)
  have w2 : IntKind.i64.wrap (c + 1) = c + 1 := IntWalk.i64_in _ (by omega)
  have w3 : IntKind.i64.wrap (t + 1) = t + 1 := IntWalk.i64_in _ (by omega)
  by_cases hw : what = 1
  · subst hw
    by_cases hl : 0 < late
    · have e : endedK ⟨g, o, n, d, c, t⟩ 1 late = ⟨g, o, n, d + 1, c, t + 1⟩ := by unfold endedK; simp [hl]
      rw [e]
      clear e
      go_enter Tryz.func99, Tryz.ntmps99
      go_wp2
      refine bodyPost_ret (v := kV ⟨g, o, n, d + 1, c, t + 1⟩) (by simp [results, Tryz.results99, go_sem]) rfl ⟨rfl, (by repeat (first | exact Below.refl _ _ | (with_reducible assumption) | refine Below.drew ?_ | (refine Below.alloc ?_ (by first | exact Nat.le_refl _ | omega | (simp; done) | (simp; omega)) _) | (refine Below.setCell ?_ (by first | omega | (simp; done) | (simp; omega)) _)))⟩
    · have hl' : decide (0 < late) = false := decide_eq_false hl
      have e : endedK ⟨g, o, n, d, c, t⟩ 1 late = ⟨g, o, n, d + 1, c, t⟩ := by unfold endedK; simp [hl]
      rw [e]
      clear e
      go_enter Tryz.func99, Tryz.ntmps99
      go_wp2
      refine bodyPost_ret (v := kV ⟨g, o, n, d + 1, c, t⟩) (by simp [results, Tryz.results99, go_sem]) rfl ⟨rfl, (by repeat (first | exact Below.refl _ _ | (with_reducible assumption) | refine Below.drew ?_ | (refine Below.alloc ?_ (by first | exact Nat.le_refl _ | omega | (simp; done) | (simp; omega)) _) | (refine Below.setCell ?_ (by first | omega | (simp; done) | (simp; omega)) _)))⟩
  · have hw' : (what == 1) = false := by simpa using hw
    by_cases hl : 0 < late
    · have e : endedK ⟨g, o, n, d, c, t⟩ what late = ⟨g, o, n, d, c + 1, t + 1⟩ := by unfold endedK; simp [hl, hw]
      rw [e]
      clear e
      go_enter Tryz.func99, Tryz.ntmps99
      go_wp2
      refine bodyPost_ret (v := kV ⟨g, o, n, d, c + 1, t + 1⟩) (by simp [results, Tryz.results99, go_sem]) rfl ⟨rfl, (by repeat (first | exact Below.refl _ _ | (with_reducible assumption) | refine Below.drew ?_ | (refine Below.alloc ?_ (by first | exact Nat.le_refl _ | omega | (simp; done) | (simp; omega)) _) | (refine Below.setCell ?_ (by first | omega | (simp; done) | (simp; omega)) _)))⟩
    · have hl' : decide (0 < late) = false := decide_eq_false hl
      have e : endedK ⟨g, o, n, d, c, t⟩ what late = ⟨g, o, n, d, c + 1, t⟩ := by unfold endedK; simp [hl, hw]
      rw [e]
      clear e
      go_enter Tryz.func99, Tryz.ntmps99
      go_wp2
      refine bodyPost_ret (v := kV ⟨g, o, n, d, c + 1, t⟩) (by simp [results, Tryz.results99, go_sem]) rfl ⟨rfl, (by repeat (first | exact Below.refl _ _ | (with_reducible assumption) | refine Below.drew ?_ | (refine Below.alloc ?_ (by first | exact Nat.le_refl _ | omega | (simp; done) | (simp; omega)) _) | (refine Below.setCell ?_ (by first | omega | (simp; done) | (simp; omega)) _)))⟩
end Go.Proofs.YtedgchafligndaaGreat
/- The program's task: Valid; no condition but those that each row names. -/
namespace Go.Proofs.YtedgchafligndaaGreat
open Go.RowKit Tsk

theorem ret_err {a b : Int} (h : a = b) : Ending.returned (errV a) = .returned (errV b) := by rw [h]
set_option maxHeartbeats 1000000 in
theorem pvalid (p : Int) (s : Value) (n : Nat) (f : Nat → Jb) (k : Ac) (w : World) (h : Jobs w s n f) (hc : k.c ≤ 9223372036854775807) : Calls Tryz.prog 22 #[tV p s k] w fun e w' => e = .returned (errV (validE p n f k)) ∧ Below w.heap.size w w' := by
  have HJ := Lib.hid h
  have HK := Lib.hid (fun w => pacc k w hc)
  obtain ⟨q, cap, rfl, hn, _⟩ := h
  obtain ⟨kg, ko, kn, kd, kc, kt⟩ := k
  clear hc
  obtain ⟨WA, hWA⟩ : ∃ WA, WA = w.alloc (.cells #[.int .i64 p, .slice q n cap, .int .i64 kg, .int .i64 ko, .int .i64 kn, .int .i64 kd, .int .i64 kc, .int .i64 kt] KT) := ⟨_, rfl⟩
  have HB := Lib.hid (show Below w.heap.size w WA from by rw [hWA]; exact (Below.refl _ _).alloc (Nat.le_refl _) _)
  have HT := Lib.hid (show HasT WA w.heap.size p (.slice q n cap) ⟨kg, ko, kn, kd, kc, kt⟩ from by rw [hWA]; exact has_new w _ _ rfl)
  have HW := Lib.hid hWA
  have hsz : w.heap.size < WA.heap.size := by rw [hWA]; simp
  clear hWA
  by_cases hp : 0 ≤ p ∧ p ≤ 31
  · by_cases hn8 : n ≤ 8
    · have hn8' : (n : Int) ≤ 8 := by omega
      have hn8b : decide ((8 : Int) < (n : Int)) = false := decide_eq_false (by omega)
      have hn8c : decide (8 < n) = false := decide_eq_false (by omega)
      by_cases ha : okA ⟨kg, ko, kn, kd, kc, kt⟩
      · rw [decide_eq_true ha] at HK
        go_enter Tryz.func22, Tryz.ntmps22
        go_wp2_with (go_at_call 52; refine (pprio _ _).mono ?_; rintro e w1 ⟨rfl, rfl⟩; rw [decide_eq_true hp])
        rw [← HW.out]
        obtain ⟨x0, x1, x2, x3, x4, x5, x6, x7⟩ := HT.out.cells
        go_wp2_with fail
        refine (HK.out WA).mono ?_
        rintro e w2 ⟨rfl, hb2⟩
        have HB2 := Lib.hid (bnext HB.out hb2)
        have HT2 := Lib.hid (HT.out.below hb2)
        have HJ2 := Lib.hid (HJ.out.below (bnext HB.out hb2))
        clear hb2 x0 x1 x2 x3 x4 x5 x6 x7
        obtain ⟨x0, x1, x2, x3, x4, x5, x6, x7⟩ := HT2.out.cells
        go_wp2_with fail
        clear x0 x1 x2 x3 x4 x5 x6 x7
        go_loopw [25] (fun iv wr => ∃ i : Nat, iv = .int .i64 i ∧ i ≤ n ∧ Hid (∀ j, j < i → okJ (f j)) ∧ Hid (Below w2.heap.size w2 wr)) (fun iv _ => n - (intOf iv).toNat)
        case atStart => exact ⟨0, rfl, Nat.zero_le _, Lib.hid (fun j hj => by omega), Lib.hid (Below.refl _ _)⟩
        case round =>
          obtain ⟨i, rfl, hi, HO, HBr⟩ := hrel
          by_cases hin : i < n
          · have hin' : (i : Int) < (n : Int) := by omega
            obtain ⟨q', cap', e, _, hcl⟩ := HJ2.out.below HBr.out
            cases e
            obtain ⟨b, off, rfl, d0, d1, d2, d3⟩ := hcl i hin
            clear hcl
            have HRJ := Lib.hid (pjob (f i))
            by_cases hok : okJ (f i)
            · have HO2 := Lib.hid (show ∀ j, j < i + 1 → okJ (f j) from fun j hj => by
                rcases Nat.lt_succ_iff_lt_or_eq.1 hj with h | h
                · exact HO.out j h
                · rw [h]; exact hok)
              rw [decide_eq_true hok] at HRJ
              generalize f i = jb at *
              obtain ⟨jl, jc, ja, jd⟩ := jb
              clear hok
              have HBa := Lib.hid (HBr.out.alloc HBr.out.size (.cells #[.int .i64 jl, .int .i64 jc, .int .i64 ja, .int .i64 jd] JT))
              go_wp2_with fail
              refine (HRJ.out _).mono ?_
              rintro e w3 ⟨rfl, hb3⟩
              have HB3 := Lib.hid (bnext HBa.out hb3)
              clear hb3
              go_wp2_with fail
              go_roundw
              case rel => exact ⟨i + 1, by go_num, by omega, HO2, HB3⟩
              case measure => simp [intOf]; omega
            · have hE := ok_no (p := p) (n := n) (f := f) (k := ⟨kg, ko, kn, kd, kc, kt⟩) (fun h => hok (h.2.2.1 i hin))
              have HE := Lib.hid hE
              rw [decide_eq_false hok] at HRJ
              generalize f i = jb at *
              obtain ⟨jl, jc, ja, jd⟩ := jb
              clear hok hE
              have HBa := Lib.hid (HBr.out.alloc HBr.out.size (.cells #[.int .i64 jl, .int .i64 jc, .int .i64 ja, .int .i64 jd] JT))
              go_wp2_with fail
              refine (HRJ.out _).mono ?_
              rintro e w3 ⟨rfl, hb3⟩
              have HB3 := Lib.hid (bnext HB2.out (bnext HBa.out hb3))
              clear hb3
              go_wp2_with fail
              go_ret
              exact ⟨ret_err HE.out.symm, HB3.out⟩
          · have hg3 : decide (i < n) = false := decide_eq_false hin
            have HV := Lib.hid (show validE p n f ⟨kg, ko, kn, kd, kc, kt⟩ = 0 from if_pos ⟨hp, hn8, fun j hj => HO.out j (by omega), ha⟩)
            have HB3 := Lib.hid (bnext HB2.out HBr.out)
            clear hin
            go_wp2_with fail
            go_ret
            exact ⟨ret_err HV.out.symm, HB3.out⟩
      · have HV := Lib.hid (show validE p n f ⟨kg, ko, kn, kd, kc, kt⟩ = 270 from if_neg fun h => ha h.2.2.2)
        rw [decide_eq_false ha] at HK
        clear ha
        go_enter Tryz.func22, Tryz.ntmps22
        go_wp2_with (go_at_call 52; refine (pprio _ _).mono ?_; rintro e w1 ⟨rfl, rfl⟩; rw [decide_eq_true hp])
        rw [← HW.out]
        obtain ⟨x0, x1, x2, x3, x4, x5, x6, x7⟩ := HT.out.cells
        go_wp2_with fail
        refine (HK.out WA).mono ?_
        rintro e w2 ⟨rfl, hb2⟩
        have HB2 := Lib.hid (bnext HB.out hb2)
        clear hb2 x0 x1 x2 x3 x4 x5 x6 x7
        go_wp2_with fail
        go_ret
        exact ⟨ret_err HV.out.symm, HB2.out⟩
    · have hE := ok_no (p := p) (n := n) (f := f) (k := ⟨kg, ko, kn, kd, kc, kt⟩) (fun h => hn8 h.2.1)
      rw [hE]
      have hn8' : (8 : Int) < (n : Int) := by omega
      clear hE hn8
      go_enter Tryz.func22, Tryz.ntmps22
      go_wp2_with (go_at_call 52; refine (pprio _ _).mono ?_; rintro e w1 ⟨rfl, rfl⟩; rw [decide_eq_true hp])
      rw [← HW.out]
      go_ret
      exact ⟨rfl, HB.out⟩
  · have hE := ok_no (p := p) (n := n) (f := f) (k := ⟨kg, ko, kn, kd, kc, kt⟩) (fun h => hp h.1)
    rw [hE]
    clear hE
    go_enter Tryz.func22, Tryz.ntmps22
    go_wp2_with (go_at_call 52; refine (pprio _ _).mono ?_; rintro e w1 ⟨rfl, rfl⟩; rw [decide_eq_false hp])
    rw [← HW.out]
    go_ret
    exact ⟨rfl, HB.out⟩
end Go.Proofs.YtedgchafligndaaGreat
