/- The document's own task: Drop, Push; no condition but those that each row names. -/
import Derived.Test.YtpfhebfkhailfaaDoorQRefB
import Derived.Deep.CutBlock
import Derived.Deep.CutRange
import Derived.Deep.DeepCutAuto
namespace Go.Proofs.YtpfhebfkhailfaaDoor
open Go.RowKit Tsk

theorem rdrop (p : Int) (s : Option Addr) (n cap : Nat) (k : Ac) (w : World) : Calls Tryd.prog 33 #[tV p (.slice s n cap) k] w fun e w' => e = .returned (.tuple #[tV p (.slice none 0 0) k, .int .i64 n]) ∧ Below w.heap.size w w' := by
  obtain ⟨kg, ko, kn, kd, kc, kt⟩ := k
  go_enter Tryd.func33, Tryd.ntmps33
  go_wp2_with fail
  refine bodyPost_ret (v := .tuple #[tV p (.slice none 0 0) ⟨kg, ko, kn, kd, kc, kt⟩, .int .i64 n]) (by simp [results, Tryd.results33, go_sem]) rfl ⟨rfl, (by repeat (first | exact Below.refl _ _ | (with_reducible assumption) | refine Below.drew ?_ | (refine Below.alloc ?_ (by first | exact Nat.le_refl _ | omega | (simp; done) | (simp; omega)) _) | (refine Below.setCell ?_ (by first | omega | (simp; done) | (simp; omega)) _)))⟩
/-- A job's block. -/
def HasJ (W : World) (g : Nat) (j : Jb) : Prop := Has W g (.cells #[.int .i64 j.l, .int .i64 j.c, .int .i64 j.a, .int .i64 j.d] JT (0, 0))
theorem HasJ.below {W W' : World} {g : Nat} {j : Jb} (h : HasJ W g j) (hb : Below W.heap.size W W') : HasJ W' g j := (hb.block g (has_lt h)).trans h
theorem HasJ.cells {W : World} {g : Nat} {j : Jb} (h : HasJ W g j) : W.cell? ⟨g, 0, none⟩ = some (.int .i64 j.l) ∧ W.cell? ⟨g, 1, none⟩ = some (.int .i64 j.c) ∧ W.cell? ⟨g, 2, none⟩ = some (.int .i64 j.a) ∧ W.cell? ⟨g, 3, none⟩ = some (.int .i64 j.d) :=
  ⟨(has_cell h 0).trans rfl, (has_cell h 1).trans rfl, (has_cell h 2).trans rfl, (has_cell h 3).trans rfl⟩
abbrev kZ : Ac := ⟨0, 0, 0, 0, 0, 0⟩
abbrev zT : Value := tV 0 (.slice none 0 0) kZ
/-- A store into a block that is known whole. -/
theorem has_set {W : World} {g : Nat} {cs : Array Value} {T : TypeId} (h : Has W g (.cells cs T (0, 0))) (j : Nat) (u : Value) : Has (W.setCell ⟨g, j, none⟩ u) g (.cells (cs.setIfInBounds j u) T (0, 0)) := heap_setCell_same W g j cs T u h
theorem has_other {W : World} {g : Nat} {o : Obj} (h : Has W g o) (p : Addr) (u : Value) (hp : p.block ≠ g) : Has (W.setCell p u) g o := (Below.heap_setCell W p u g (fun e => hp e.symm)).trans h
theorem arr8 (u0 u1 u2 u3 u4 u5 u6 u7 v0 v1 v2 v3 v4 v5 v6 v7 : Value) : (((((((#[u0, u1, u2, u3, u4, u5, u6, u7].setIfInBounds 0 v0).setIfInBounds 1 v1).setIfInBounds 2 v2).setIfInBounds 3 v3).setIfInBounds 4 v4).setIfInBounds 5 v5).setIfInBounds 6 v6).setIfInBounds 7 v7 = #[v0, v1, v2, v3, v4, v5, v6, v7] := by
  rw [← Array.toList_inj]
  simp only [Array.toList_setIfInBounds]
  rfl
theorem HasT.set8 {W : World} {g : Nat} {p p' : Int} {s s' : Value} {k k' : Ac} (h : HasT W g p s k) :
    HasT ((((((((W.setCell ⟨g, 0, none⟩ (.int .i64 p')).setCell ⟨g, 1, none⟩ s').setCell ⟨g, 2, none⟩ (.int .i64 k'.g)).setCell ⟨g, 3, none⟩ (.int .i64 k'.o)).setCell ⟨g, 4, none⟩ (.int .i64 k'.n)).setCell ⟨g, 5, none⟩ (.int .i64 k'.d)).setCell ⟨g, 6, none⟩ (.int .i64 k'.c)).setCell ⟨g, 7, none⟩ (.int .i64 k'.t)) g p' s' k' := by
  unfold HasT at h
  have a0 := has_set h 0 (.int .i64 p')
  have a1 := has_set a0 1 s'
  have a2 := has_set a1 2 (.int .i64 k'.g)
  have a3 := has_set a2 3 (.int .i64 k'.o)
  have a4 := has_set a3 4 (.int .i64 k'.n)
  have a5 := has_set a4 5 (.int .i64 k'.d)
  have a6 := has_set a5 6 (.int .i64 k'.c)
  have a7 := has_set a6 7 (.int .i64 k'.t)
  clear h a0 a1 a2 a3 a4 a5 a6
  rw [arr8] at a7
  exact a7
/-- The task is a twin of its own, in its block. -/
def Pushed (w : World) (p : Int) (n : Nat) (f : Nat → Jb) (k : Ac) (j : Jb) (wx : World) : Prop := ∃ s4 c4, HasT wx w.heap.size p (.slice s4 n c4) k ∧ HasJ wx (w.heap.size + 1) j ∧ HasT wx (w.heap.size + 1 + 1) 0 (.slice none 0 0) kZ ∧ JobsO (w.heap.size + 3) wx (.slice s4 n c4) n f ∧ Below w.heap.size w wx
theorem Pushed.made {w w4 : World} {p : Int} {n : Nat} {f : Nat → Jb} {k : Ac} {j : Jb} {s : Value} {s4 : Option Addr} {c4 : Nat} (h1 : HasT w4 w.heap.size p s k) (h2 : HasJ w4 (w.heap.size + 1) j) (h3 : HasT w4 (w.heap.size + 1 + 1) 0 (.slice none 0 0) kZ) (h4 : JobsO (w.heap.size + 3) w4 (.slice s4 n c4) n f) (h5 : Below w.heap.size w w4) :
    Pushed w p n f k j ((((((((w4.setCell ⟨w.heap.size, 0, none⟩ (.int .i64 p)).setCell ⟨w.heap.size, 1, none⟩ (.slice s4 n c4)).setCell ⟨w.heap.size, 2, none⟩ (.int .i64 k.g)).setCell ⟨w.heap.size, 3, none⟩ (.int .i64 k.o)).setCell ⟨w.heap.size, 4, none⟩ (.int .i64 k.n)).setCell ⟨w.heap.size, 5, none⟩ (.int .i64 k.d)).setCell ⟨w.heap.size, 6, none⟩ (.int .i64 k.c)).setCell ⟨w.heap.size, 7, none⟩ (.int .i64 k.t)) := by
  refine ⟨s4, c4, HasT.set8 h1, ?_, ?_, ?_, ?_⟩
  · unfold HasJ
    iterate 8 refine has_other ?_ _ _ (by show w.heap.size ≠ w.heap.size + 1; omega)
    exact h2
  · unfold HasT
    iterate 8 refine has_other ?_ _ _ (by show w.heap.size ≠ w.heap.size + 1 + 1; omega)
    exact h3
  · iterate 8 refine own_low ?_ _ _ (by show w.heap.size < w.heap.size + 3; omega)
    exact h4
  · iterate 8 refine below_low ?_ _ _ (Nat.le_refl _)
    exact h5
/-- The error of a push. -/
def pushE (p : Int) (n : Nat) (f : Nat → Jb) (k : Ac) (j : Jb) (now : Int) : Int :=
  if ¬ okT p n f k then 270 else if ¬ (0 ≤ now ∧ now ≤ 1073741824) then 1 else if ¬ okJ ⟨j.l, j.c, now, j.d⟩ then 2 else if 8 ≤ n then 40 else 0
set_option maxHeartbeats 2000000 in
theorem rpush_state (p : Int) (s : Value) (n : Nat) (f : Nat → Jb) (k : Ac) (j : Jb) (now : Int) (w : World) (h : Jobs w s n f) (hv : ¬ okT p n f k) :
    Calls Tryd.prog 23 #[tV p s k, jV j, .int .i64 now] w fun e w' => e = .returned (.tuple #[zT, .int .i64 270]) ∧ Below w.heap.size w w' := by
  have HV := Lib.hid (fun w (h : Jobs w s n f) => rvalid p s n f k w h)
  rw [ok_no hv] at HV
  clear hv
  have HJ := Lib.hid h
  obtain ⟨q, cap, rfl, _, _⟩ := h
  obtain ⟨kg, ko, kn, kd, kc, kt⟩ := k
  obtain ⟨l, c, a, d⟩ := j
  obtain ⟨WA, hWA⟩ : ∃ WA, WA = ((w.alloc (.cells #[.int .i64 p, .slice q n cap, .int .i64 kg, .int .i64 ko, .int .i64 kn, .int .i64 kd, .int .i64 kc, .int .i64 kt] KT)).alloc (.cells #[.int .i64 l, .int .i64 c, .int .i64 now, .int .i64 d] JT)).alloc (.cells #[.int .i64 0, .slice none 0 0, .int .i64 0, .int .i64 0, .int .i64 0, .int .i64 0, .int .i64 0, .int .i64 0] KT) := ⟨_, rfl⟩
  have HB := Lib.hid (show Below w.heap.size w WA from by rw [hWA]; exact (((Below.refl _ _).alloc (Nat.le_refl _) _).alloc (by simp) _).alloc (by simp; omega) _)
  have HA := Lib.hid (show HasT WA w.heap.size p (.slice q n cap) ⟨kg, ko, kn, kd, kc, kt⟩ ∧ HasJ WA (w.heap.size + 1) ⟨l, c, now, d⟩ ∧ HasT WA (w.heap.size + 1 + 1) 0 (.slice none 0 0) kZ ∧ WA.heap.size = w.heap.size + 3 from by
    rw [hWA]
    exact ⟨has_old (has_old (has_new w _ _ rfl) _) _, has_old (has_new _ _ _ (by simp)) _, has_new _ _ _ (by simp), by simp⟩)
  have HW := Lib.hid hWA
  clear hWA
  go_enter Tryd.func23, Tryd.ntmps23
  go_wp2_with fail
  rw [← HW.out]
  refine (HV.out _ (HJ.out.below HB.out)).mono ?_
  rintro e w1 ⟨rfl, hb1⟩
  have HB1 := Lib.hid (bnext HB.out hb1)
  have HC1 := Lib.hid hb1
  obtain ⟨x0, x1, x2, x3, x4, x5, x6, x7⟩ := (HA.out.1.below hb1).cells
  obtain ⟨j0, j1, j2, j3⟩ := (HA.out.2.1.below hb1).cells
  obtain ⟨y0, y1, y2, y3, y4, y5, y6, y7⟩ := (HA.out.2.2.1.below hb1).cells
  have f1 : ∀ j, w1.frozen? ⟨w.heap.size + 1 + 1, j, none⟩ = false := fun j => has_free (HA.out.2.2.1.below hb1) j
  clear hb1
  go_wp2_with fail
  refine bodyPost_ret (v := .tuple #[zT, .int .i64 270]) (by simp [results, Tryd.results23, go_sem, y0, y1, y2, y3, y4, y5, y6, y7]) rfl ⟨rfl, ?_⟩
  repeat (first | (with_reducible exact HB1.out) | refine below_low ?_ _ _ (by first | (simp; done) | (simp; omega)))
set_option maxHeartbeats 2000000 in
theorem rpush_arg (p : Int) (s : Value) (n : Nat) (f : Nat → Jb) (k : Ac) (j : Jb) (now : Int) (w : World) (h : Jobs w s n f) (hv : okT p n f k) (hn : ¬ (0 ≤ now ∧ now ≤ 1073741824)) :
    Calls Tryd.prog 23 #[tV p s k, jV j, .int .i64 now] w fun e w' => e = .returned (.tuple #[zT, .int .i64 1]) ∧ Below w.heap.size w w' := by
  have HV := Lib.hid (fun w (h : Jobs w s n f) => rvalid p s n f k w h)
  rw [ok_yes hv] at HV
  clear hv
  have HJ := Lib.hid h
  obtain ⟨q, cap, rfl, _, _⟩ := h
  obtain ⟨kg, ko, kn, kd, kc, kt⟩ := k
  obtain ⟨l, c, a, d⟩ := j
  obtain ⟨WA, hWA⟩ : ∃ WA, WA = ((w.alloc (.cells #[.int .i64 p, .slice q n cap, .int .i64 kg, .int .i64 ko, .int .i64 kn, .int .i64 kd, .int .i64 kc, .int .i64 kt] KT)).alloc (.cells #[.int .i64 l, .int .i64 c, .int .i64 now, .int .i64 d] JT)).alloc (.cells #[.int .i64 0, .slice none 0 0, .int .i64 0, .int .i64 0, .int .i64 0, .int .i64 0, .int .i64 0, .int .i64 0] KT) := ⟨_, rfl⟩
  have HB := Lib.hid (show Below w.heap.size w WA from by rw [hWA]; exact (((Below.refl _ _).alloc (Nat.le_refl _) _).alloc (by simp) _).alloc (by simp; omega) _)
  have HA := Lib.hid (show HasT WA w.heap.size p (.slice q n cap) ⟨kg, ko, kn, kd, kc, kt⟩ ∧ HasJ WA (w.heap.size + 1) ⟨l, c, now, d⟩ ∧ HasT WA (w.heap.size + 1 + 1) 0 (.slice none 0 0) kZ ∧ WA.heap.size = w.heap.size + 3 from by
    rw [hWA]
    exact ⟨has_old (has_old (has_new w _ _ rfl) _) _, has_old (has_new _ _ _ (by simp)) _, has_new _ _ _ (by simp), by simp⟩)
  have HW := Lib.hid hWA
  clear hWA
  go_enter Tryd.func23, Tryd.ntmps23
  go_wp2_with fail
  rw [← HW.out]
  refine (HV.out _ (HJ.out.below HB.out)).mono ?_
  rintro e w1 ⟨rfl, hb1⟩
  have HB1 := Lib.hid (bnext HB.out hb1)
  have HC1 := Lib.hid hb1
  obtain ⟨x0, x1, x2, x3, x4, x5, x6, x7⟩ := (HA.out.1.below hb1).cells
  obtain ⟨j0, j1, j2, j3⟩ := (HA.out.2.1.below hb1).cells
  obtain ⟨y0, y1, y2, y3, y4, y5, y6, y7⟩ := (HA.out.2.2.1.below hb1).cells
  have f1 : ∀ j, w1.frozen? ⟨w.heap.size + 1 + 1, j, none⟩ = false := fun j => has_free (HA.out.2.2.1.below hb1) j
  clear hb1
  go_wp2_with fail
  refine (rwithin _ _ _).mono ?_
  rintro e w2 ⟨rfl, rfl⟩
  rw [decide_eq_false hn]
  go_wp2_with fail
  refine bodyPost_ret (v := .tuple #[zT, .int .i64 1]) (by simp [results, Tryd.results23, go_sem, y0, y1, y2, y3, y4, y5, y6, y7]) rfl ⟨rfl, ?_⟩
  repeat (first | (with_reducible exact HB1.out) | refine below_low ?_ _ _ (by first | (simp; done) | (simp; omega)))
set_option maxHeartbeats 2000000 in
theorem rpush_range (p : Int) (s : Value) (n : Nat) (f : Nat → Jb) (k : Ac) (j : Jb) (now : Int) (w : World) (h : Jobs w s n f) (hv : okT p n f k) (hn : 0 ≤ now ∧ now ≤ 1073741824) (hj : ¬ okJ ⟨j.l, j.c, now, j.d⟩) :
    Calls Tryd.prog 23 #[tV p s k, jV j, .int .i64 now] w fun e w' => e = .returned (.tuple #[zT, .int .i64 2]) ∧ Below w.heap.size w w' := by
  have HV := Lib.hid (fun w (h : Jobs w s n f) => rvalid p s n f k w h)
  rw [ok_yes hv] at HV
  have HRJ := Lib.hid (rjob ⟨j.l, j.c, now, j.d⟩)
  rw [decide_eq_false hj] at HRJ
  clear hv hj
  have HJ := Lib.hid h
  obtain ⟨q, cap, rfl, _, _⟩ := h
  obtain ⟨kg, ko, kn, kd, kc, kt⟩ := k
  obtain ⟨l, c, a, d⟩ := j
  obtain ⟨WA, hWA⟩ : ∃ WA, WA = ((w.alloc (.cells #[.int .i64 p, .slice q n cap, .int .i64 kg, .int .i64 ko, .int .i64 kn, .int .i64 kd, .int .i64 kc, .int .i64 kt] KT)).alloc (.cells #[.int .i64 l, .int .i64 c, .int .i64 now, .int .i64 d] JT)).alloc (.cells #[.int .i64 0, .slice none 0 0, .int .i64 0, .int .i64 0, .int .i64 0, .int .i64 0, .int .i64 0, .int .i64 0] KT) := ⟨_, rfl⟩
  have HB := Lib.hid (show Below w.heap.size w WA from by rw [hWA]; exact (((Below.refl _ _).alloc (Nat.le_refl _) _).alloc (by simp) _).alloc (by simp; omega) _)
  have HA := Lib.hid (show HasT WA w.heap.size p (.slice q n cap) ⟨kg, ko, kn, kd, kc, kt⟩ ∧ HasJ WA (w.heap.size + 1) ⟨l, c, now, d⟩ ∧ HasT WA (w.heap.size + 1 + 1) 0 (.slice none 0 0) kZ ∧ WA.heap.size = w.heap.size + 3 from by
    rw [hWA]
    exact ⟨has_old (has_old (has_new w _ _ rfl) _) _, has_old (has_new _ _ _ (by simp)) _, has_new _ _ _ (by simp), by simp⟩)
  have HW := Lib.hid hWA
  clear hWA
  go_enter Tryd.func23, Tryd.ntmps23
  go_wp2_with fail
  rw [← HW.out]
  refine (HV.out _ (HJ.out.below HB.out)).mono ?_
  rintro e w1 ⟨rfl, hb1⟩
  have HB1 := Lib.hid (bnext HB.out hb1)
  have HC1 := Lib.hid hb1
  obtain ⟨x0, x1, x2, x3, x4, x5, x6, x7⟩ := (HA.out.1.below hb1).cells
  obtain ⟨j0, j1, j2, j3⟩ := (HA.out.2.1.below hb1).cells
  obtain ⟨y0, y1, y2, y3, y4, y5, y6, y7⟩ := (HA.out.2.2.1.below hb1).cells
  have f1 : ∀ j, w1.frozen? ⟨w.heap.size + 1 + 1, j, none⟩ = false := fun j => has_free (HA.out.2.2.1.below hb1) j
  clear hb1
  go_wp2_with fail
  refine (rwithin _ _ _).mono ?_
  rintro e w2 ⟨rfl, rfl⟩
  rw [decide_eq_true hn]
  go_wp2_with fail
  refine (HRJ.out _).mono ?_
  rintro e w3 ⟨rfl, hb3⟩
  have HB3 := Lib.hid (bnext HB1.out hb3)
  have hc3 := bnext HC1.out hb3
  clear x0 x1 x2 x3 x4 x5 x6 x7 j0 j1 j2 j3 y0 y1 y2 y3 y4 y5 y6 y7 f1
  obtain ⟨x0, x1, x2, x3, x4, x5, x6, x7⟩ := (HA.out.1.below hc3).cells
  obtain ⟨j0, j1, j2, j3⟩ := (HA.out.2.1.below hc3).cells
  obtain ⟨y0, y1, y2, y3, y4, y5, y6, y7⟩ := (HA.out.2.2.1.below hc3).cells
  have f1 : ∀ j, w3.frozen? ⟨w.heap.size + 1 + 1, j, none⟩ = false := fun j => has_free (HA.out.2.2.1.below hc3) j
  have HC3 := Lib.hid hc3
  clear hb3 hc3
  go_wp2_with fail
  refine bodyPost_ret (v := .tuple #[zT, .int .i64 2]) (by simp [results, Tryd.results23, go_sem, y0, y1, y2, y3, y4, y5, y6, y7]) rfl ⟨rfl, ?_⟩
  repeat (first | (with_reducible exact HB3.out) | refine below_low ?_ _ _ (by first | (simp; done) | (simp; omega)))
set_option maxHeartbeats 2000000 in
theorem rpush_full (p : Int) (s : Value) (n : Nat) (f : Nat → Jb) (k : Ac) (j : Jb) (now : Int) (w : World) (h : Jobs w s n f) (hv : okT p n f k) (hn : 0 ≤ now ∧ now ≤ 1073741824) (hj : okJ ⟨j.l, j.c, now, j.d⟩) (h8 : 8 ≤ n) :
    Calls Tryd.prog 23 #[tV p s k, jV j, .int .i64 now] w fun e w' => e = .returned (.tuple #[zT, .int .i64 40]) ∧ Below w.heap.size w w' := by
  have HV := Lib.hid (fun w (h : Jobs w s n f) => rvalid p s n f k w h)
  rw [ok_yes hv] at HV
  have HRJ := Lib.hid (rjob ⟨j.l, j.c, now, j.d⟩)
  rw [decide_eq_true hj] at HRJ
  clear hv hj
  have h8' : (8 : Int) ≤ (n : Int) := by omega
  have HJ := Lib.hid h
  obtain ⟨q, cap, rfl, _, _⟩ := h
  obtain ⟨kg, ko, kn, kd, kc, kt⟩ := k
  obtain ⟨l, c, a, d⟩ := j
  obtain ⟨WA, hWA⟩ : ∃ WA, WA = ((w.alloc (.cells #[.int .i64 p, .slice q n cap, .int .i64 kg, .int .i64 ko, .int .i64 kn, .int .i64 kd, .int .i64 kc, .int .i64 kt] KT)).alloc (.cells #[.int .i64 l, .int .i64 c, .int .i64 now, .int .i64 d] JT)).alloc (.cells #[.int .i64 0, .slice none 0 0, .int .i64 0, .int .i64 0, .int .i64 0, .int .i64 0, .int .i64 0, .int .i64 0] KT) := ⟨_, rfl⟩
  have HB := Lib.hid (show Below w.heap.size w WA from by rw [hWA]; exact (((Below.refl _ _).alloc (Nat.le_refl _) _).alloc (by simp) _).alloc (by simp; omega) _)
  have HA := Lib.hid (show HasT WA w.heap.size p (.slice q n cap) ⟨kg, ko, kn, kd, kc, kt⟩ ∧ HasJ WA (w.heap.size + 1) ⟨l, c, now, d⟩ ∧ HasT WA (w.heap.size + 1 + 1) 0 (.slice none 0 0) kZ ∧ WA.heap.size = w.heap.size + 3 from by
    rw [hWA]
    exact ⟨has_old (has_old (has_new w _ _ rfl) _) _, has_old (has_new _ _ _ (by simp)) _, has_new _ _ _ (by simp), by simp⟩)
  have HW := Lib.hid hWA
  clear hWA
  go_enter Tryd.func23, Tryd.ntmps23
  go_wp2_with fail
  rw [← HW.out]
  refine (HV.out _ (HJ.out.below HB.out)).mono ?_
  rintro e w1 ⟨rfl, hb1⟩
  have HB1 := Lib.hid (bnext HB.out hb1)
  have HC1 := Lib.hid hb1
  obtain ⟨x0, x1, x2, x3, x4, x5, x6, x7⟩ := (HA.out.1.below hb1).cells
  obtain ⟨j0, j1, j2, j3⟩ := (HA.out.2.1.below hb1).cells
  obtain ⟨y0, y1, y2, y3, y4, y5, y6, y7⟩ := (HA.out.2.2.1.below hb1).cells
  have f1 : ∀ j, w1.frozen? ⟨w.heap.size + 1 + 1, j, none⟩ = false := fun j => has_free (HA.out.2.2.1.below hb1) j
  clear hb1
  go_wp2_with fail
  refine (rwithin _ _ _).mono ?_
  rintro e w2 ⟨rfl, rfl⟩
  rw [decide_eq_true hn]
  go_wp2_with fail
  refine (HRJ.out _).mono ?_
  rintro e w3 ⟨rfl, hb3⟩
  have HB3 := Lib.hid (bnext HB1.out hb3)
  have hc3 := bnext HC1.out hb3
  clear x0 x1 x2 x3 x4 x5 x6 x7 j0 j1 j2 j3 y0 y1 y2 y3 y4 y5 y6 y7 f1
  obtain ⟨x0, x1, x2, x3, x4, x5, x6, x7⟩ := (HA.out.1.below hc3).cells
  obtain ⟨j0, j1, j2, j3⟩ := (HA.out.2.1.below hc3).cells
  obtain ⟨y0, y1, y2, y3, y4, y5, y6, y7⟩ := (HA.out.2.2.1.below hc3).cells
  have f1 : ∀ j, w3.frozen? ⟨w.heap.size + 1 + 1, j, none⟩ = false := fun j => has_free (HA.out.2.2.1.below hc3) j
  have HC3 := Lib.hid hc3
  clear hb3 hc3
  go_wp2_with fail
  refine bodyPost_ret (v := .tuple #[zT, .int .i64 40]) (by simp [results, Tryd.results23, go_sem, y0, y1, y2, y3, y4, y5, y6, y7]) rfl ⟨rfl, ?_⟩
  repeat (first | (with_reducible exact HB3.out) | refine below_low ?_ _ _ (by first | (simp; done) | (simp; omega)))
set_option maxHeartbeats 4000000 in
theorem rpush_ok (p : Int) (s : Value) (n : Nat) (f : Nat → Jb) (k : Ac) (j : Jb) (now : Int) (w : World) (h : Jobs w s n f) (hv : okT p n f k) (hn : 0 ≤ now ∧ now ≤ 1073741824) (hj : okJ ⟨j.l, j.c, now, j.d⟩) (h8 : n < 8) :
    Calls Tryd.prog 23 #[tV p s k, jV j, .int .i64 now] w fun e w' => ∃ x, e = .returned (.tuple #[x, .int .i64 0]) ∧ TaskO w p (n + 1) (upd f n ⟨j.l, j.c, now, j.d⟩) k x w' := by
  have HV := Lib.hid (fun w (h : Jobs w s n f) => rvalid p s n f k w h)
  rw [ok_yes hv] at HV
  have HRJ := Lib.hid (rjob ⟨j.l, j.c, now, j.d⟩)
  rw [decide_eq_true hj] at HRJ
  clear hv hj
  have h8' : (n : Int) < 8 := by omega
  have h8b : decide ((8 : Int) ≤ (n : Int)) = false := decide_eq_false (by omega)
  have HJ := Lib.hid h
  obtain ⟨q, cap, rfl, _, _⟩ := h
  obtain ⟨kg, ko, kn, kd, kc, kt⟩ := k
  obtain ⟨l, c, a, d⟩ := j
  obtain ⟨WA, hWA⟩ : ∃ WA, WA = ((w.alloc (.cells #[.int .i64 p, .slice q n cap, .int .i64 kg, .int .i64 ko, .int .i64 kn, .int .i64 kd, .int .i64 kc, .int .i64 kt] KT)).alloc (.cells #[.int .i64 l, .int .i64 c, .int .i64 now, .int .i64 d] JT)).alloc (.cells #[.int .i64 0, .slice none 0 0, .int .i64 0, .int .i64 0, .int .i64 0, .int .i64 0, .int .i64 0, .int .i64 0] KT) := ⟨_, rfl⟩
  have HB := Lib.hid (show Below w.heap.size w WA from by rw [hWA]; exact (((Below.refl _ _).alloc (Nat.le_refl _) _).alloc (by simp) _).alloc (by simp; omega) _)
  have HA := Lib.hid (show HasT WA w.heap.size p (.slice q n cap) ⟨kg, ko, kn, kd, kc, kt⟩ ∧ HasJ WA (w.heap.size + 1) ⟨l, c, now, d⟩ ∧ HasT WA (w.heap.size + 1 + 1) 0 (.slice none 0 0) kZ ∧ WA.heap.size = w.heap.size + 3 from by
    rw [hWA]
    exact ⟨has_old (has_old (has_new w _ _ rfl) _) _, has_old (has_new _ _ _ (by simp)) _, has_new _ _ _ (by simp), by simp⟩)
  have HW := Lib.hid hWA
  clear hWA
  go_enter Tryd.func23, Tryd.ntmps23
  go_wp2_with fail
  rw [← HW.out]
  refine (HV.out _ (HJ.out.below HB.out)).mono ?_
  rintro e w1 ⟨rfl, hb1⟩
  have HB1 := Lib.hid (bnext HB.out hb1)
  have HC1 := Lib.hid hb1
  obtain ⟨x0, x1, x2, x3, x4, x5, x6, x7⟩ := (HA.out.1.below hb1).cells
  obtain ⟨j0, j1, j2, j3⟩ := (HA.out.2.1.below hb1).cells
  obtain ⟨y0, y1, y2, y3, y4, y5, y6, y7⟩ := (HA.out.2.2.1.below hb1).cells
  have f1 : ∀ j, w1.frozen? ⟨w.heap.size + 1 + 1, j, none⟩ = false := fun j => has_free (HA.out.2.2.1.below hb1) j
  clear hb1
  go_wp2_with fail
  refine (rwithin _ _ _).mono ?_
  rintro e w2 ⟨rfl, rfl⟩
  rw [decide_eq_true hn]
  go_wp2_with fail
  refine (HRJ.out _).mono ?_
  rintro e w3 ⟨rfl, hb3⟩
  have HB3 := Lib.hid (bnext HB1.out hb3)
  have hc3 := bnext HC1.out hb3
  clear x0 x1 x2 x3 x4 x5 x6 x7 j0 j1 j2 j3 y0 y1 y2 y3 y4 y5 y6 y7 f1
  obtain ⟨x0, x1, x2, x3, x4, x5, x6, x7⟩ := (HA.out.1.below hc3).cells
  obtain ⟨j0, j1, j2, j3⟩ := (HA.out.2.1.below hc3).cells
  obtain ⟨y0, y1, y2, y3, y4, y5, y6, y7⟩ := (HA.out.2.2.1.below hc3).cells
  have f1 : ∀ j, w3.frozen? ⟨w.heap.size + 1 + 1, j, none⟩ = false := fun j => has_free (HA.out.2.2.1.below hc3) j
  have HC3 := Lib.hid hc3
  clear hb3 hc3
  go_upto_region 10 with fail
  go_cut [] (fun wx => Pushed w p n f ⟨kg, ko, kn, kd, kc, kt⟩ ⟨l, c, now, d⟩ wx)
  case first =>
    go_wp2_with fail
    refine (rtwin p (.slice q n cap) n f ⟨kg, ko, kn, kd, kc, kt⟩ _ (HJ.out.below HB3.out) (by omega)).mono ?_
    rintro e w4 ⟨x, rfl, s4, c4, rfl, ho4, hb4⟩
    have hc4 := bnext HC3.out hb4
    have HP := Lib.hid (show Pushed w p n f ⟨kg, ko, kn, kd, kc, kt⟩ ⟨l, c, now, d⟩ ((((((((w4.setCell ⟨w.heap.size, 0, none⟩ (.int .i64 p)).setCell ⟨w.heap.size, 1, none⟩ (.slice s4 n c4)).setCell ⟨w.heap.size, 2, none⟩ (.int .i64 kg)).setCell ⟨w.heap.size, 3, none⟩ (.int .i64 ko)).setCell ⟨w.heap.size, 4, none⟩ (.int .i64 kn)).setCell ⟨w.heap.size, 5, none⟩ (.int .i64 kd)).setCell ⟨w.heap.size, 6, none⟩ (.int .i64 kc)).setCell ⟨w.heap.size, 7, none⟩ (.int .i64 kt)) from
      Pushed.made (HA.out.1.below hc4) (HA.out.2.1.below hc4) (HA.out.2.2.1.below hc4) (own_base2 ho4 (by have := HC3.out.size; have := HA.out.2.2.2; omega)) (bnext HB3.out hb4))
    clear x0 x1 x2 x3 x4 x5 x6 x7 j0 j1 j2 j3 y0 y1 y2 y3 y4 y5 y6 y7 f1
    obtain ⟨x0, x1, x2, x3, x4, x5, x6, x7⟩ := (HA.out.1.below hc4).cells
    obtain ⟨y0, y1, y2, y3, y4, y5, y6, y7⟩ := (HA.out.2.2.1.below hc4).cells
    have f1 : ∀ j, w4.frozen? ⟨w.heap.size + 1 + 1, j, none⟩ = false := fun j => has_free (HA.out.2.2.1.below hc4) j
    have f0 : ∀ j, w4.frozen? ⟨w.heap.size, j, none⟩ = false := fun j => has_free (HA.out.1.below hc4) j
    clear hb4 hc4 ho4
    go_wp2_with fail
    go_meet
    exact HP.out
  case rest =>
    obtain ⟨s4, c4, h1, h2, h3, h4, h5⟩ := hcut
    have HBc := Lib.hid h5
    have HA1 := Lib.hid h1
    have HA2 := Lib.hid h2
    have HA3 := Lib.hid h3
    have HO4 := Lib.hid h4
    obtain ⟨x0, x1, x2, x3, x4, x5, x6, x7⟩ := h1.cells
    obtain ⟨j0, j1, j2, j3⟩ := h2.cells
    have hsz := has_lt h3
    have HNA := Lib.hid (own_under h4 ((Below.refl wc.heap.size wc).alloc (Nat.le_refl _) (.cells #[.int .i64 l, .int .i64 c, .int .i64 now, .int .i64 d] JT)))
    clear h1 h2 h3 h4 h5
    go_wp2_with (at_builtin; refine wpList_append_jobs rfl _ _ rfl (w.heap.size + 3) (.slice s4 n c4) n (jbL f n) rfl HNA.out _ 1 [.int .i64 l, .int .i64 c, .int .i64 now, .int .i64 d] rfl (src_one wc ⟨l, c, now, d⟩ JT) (by intro u hu; simp at hu; rcases hu with rfl | rfl | rfl | rfl <;> rfl) (by omega) (by simp; omega) ?_)
    intro p6 c6 w6 ho6 hg6 ha6
    have HK := Lib.hid (show Keeps (fun x => w.heap.size + 3 ≤ x) wc w6 from ((Keeps.refl _ wc).alloc _).grown hg6 (fun k e => .inl (World.ownsRow.lt HNA.out k e).1))
    have HO6 := Lib.hid (show JobsO (w.heap.size + 3) w6 (.slice p6 (n + 1) c6) (n + 1) (upd f n ⟨l, c, now, d⟩) from by
      unfold JobsO
      rw [jbL_succ, upd_same, jbL_congr (g := f) (fun i hi => upd_ne _ (by omega))]
      exact ho6)
    have HB6 := Lib.hid (HBc.out.trans (HK.out.below HBc.out.size (fun b hb => by omega)))
    have H1 := Lib.hid (show HasT w6 w.heap.size p (.slice s4 n c4) ⟨kg, ko, kn, kd, kc, kt⟩ from (HK.out.block _ (has_lt HA1.out) (by omega)).trans HA1.out)
    have H3 := Lib.hid (show HasT w6 (w.heap.size + 1 + 1) 0 (.slice none 0 0) kZ from (HK.out.block _ (has_lt HA3.out) (by omega)).trans HA3.out)
    clear x0 x1 x2 x3 x4 x5 x6 x7 j0 j1 j2 j3 ho6 hg6 ha6
    obtain ⟨x0, x1, x2, x3, x4, x5, x6, x7⟩ := H1.out.cells
    obtain ⟨y0, y1, y2, y3, y4, y5, y6, y7⟩ := H3.out.cells
    have f0 : ∀ j, w6.frozen? ⟨w.heap.size, j, none⟩ = false := fun j => has_free H1.out j
    have f1 : ∀ j, w6.frozen? ⟨w.heap.size + 1 + 1, j, none⟩ = false := fun j => has_free H3.out j
    go_wp2_with fail
    refine bodyPost_ret (v := .tuple #[tV p (.slice p6 (n + 1) c6) ⟨kg, ko, kn, kd, kc, kt⟩, .int .i64 0]) (by simp [results, Tryd.results23, go_sem, y0, y1, y2, y3, y4, y5, y6, y7]) rfl ⟨_, rfl, p6, c6, rfl, ?_, ?_⟩
    · refine own_base2 (B := w.heap.size + 3) ?_ (by omega)
      repeat (first | (with_reducible exact HO6.out) | refine own_low ?_ _ _ (by first | (simp; done) | (simp; omega)))
    · repeat (first | (with_reducible exact HB6.out) | refine below_low ?_ _ _ (by first | (simp; done) | (simp; omega)))
theorem zero_task {w w' : World} (f : Nat → Jb) (hb : Below w.heap.size w w') : TaskO w 0 0 f kZ zT w' := ⟨none, 0, rfl, World.ownsRow_nil _ _ _ _, hb⟩
/-- Push, every way. -/
theorem rpush_any (p : Int) (s : Value) (n : Nat) (f : Nat → Jb) (k : Ac) (j : Jb) (now : Int) (w : World) (h : Jobs w s n f) :
    Calls Tryd.prog 23 #[tV p s k, jV j, .int .i64 now] w fun e w' => ∃ x, e = .returned (.tuple #[x, .int .i64 (pushE p n f k j now)]) ∧
      TaskO w (if pushE p n f k j now = 0 then p else 0) (if pushE p n f k j now = 0 then n + 1 else 0) (upd f n ⟨j.l, j.c, now, j.d⟩) (if pushE p n f k j now = 0 then k else kZ) x w' := by
  by_cases hv : okT p n f k
  · by_cases hn : 0 ≤ now ∧ now ≤ 1073741824
    · by_cases hj : okJ ⟨j.l, j.c, now, j.d⟩
      · by_cases h8 : 8 ≤ n
        · have hE : pushE p n f k j now = 40 := by unfold pushE; rw [if_neg (fun h => h hv), if_neg (fun h => h hn), if_neg (fun h => h hj), if_pos h8]
          rw [hE]
          exact (rpush_full p s n f k j now w h hv hn hj h8).mono fun e w' ⟨he, hb⟩ => ⟨_, he, zero_task _ hb⟩
        · have hE : pushE p n f k j now = 0 := by unfold pushE; rw [if_neg (fun h => h hv), if_neg (fun h => h hn), if_neg (fun h => h hj), if_neg h8]
          rw [hE]
          exact (rpush_ok p s n f k j now w h hv hn hj (by omega)).mono fun e w' ⟨x, he, hb⟩ => ⟨x, he, hb⟩
      · have hE : pushE p n f k j now = 2 := by unfold pushE; rw [if_neg (fun h => h hv), if_neg (fun h => h hn), if_pos hj]
        rw [hE]
        exact (rpush_range p s n f k j now w h hv hn hj).mono fun e w' ⟨he, hb⟩ => ⟨_, he, zero_task _ hb⟩
    · have hE : pushE p n f k j now = 1 := by unfold pushE; rw [if_neg (fun h => h hv), if_pos hn]
      rw [hE]
      exact (rpush_arg p s n f k j now w h hv hn).mono fun e w' ⟨he, hb⟩ => ⟨_, he, zero_task _ hb⟩
  · have hE : pushE p n f k j now = 270 := if_pos hv
    rw [hE]
    exact (rpush_state p s n f k j now w h hv).mono fun e w' ⟨he, hb⟩ => ⟨_, he, zero_task _ hb⟩
end Go.Proofs.YtpfhebfkhailfaaDoor
