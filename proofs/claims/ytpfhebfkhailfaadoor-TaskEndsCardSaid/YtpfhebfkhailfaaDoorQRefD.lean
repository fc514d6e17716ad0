/- The document's own task: Run; no condition but those that each row names. -/
import Derived.Test.YtpfhebfkhailfaaDoorQSt
namespace Go.Proofs.YtpfhebfkhailfaaDoor
open Go.RowKit Tsk

set_option maxHeartbeats 2000000 in
theorem rrun_state (p : Int) (s : Value) (n : Nat) (f : Nat → Jb) (k : Ac) (now : Int) (w : World) (h : Jobs w s n f) (hv : ¬ okT p n f k) :
    Calls Tryd.prog 25 #[tV p s k, .int .i64 now] w fun e w' => e = .returned (.tuple #[zT, .int .i64 0, .int .i64 0, .int .i64 270]) ∧ Below w.heap.size w w' := by
  have HV := Lib.hid (fun w (h : Jobs w s n f) => rvalid p s n f k w h)
  rw [ok_no hv] at HV
  clear hv
  have HJ := Lib.hid h
  obtain ⟨q, cap, rfl, _, _⟩ := h
  obtain ⟨kg, ko, kn, kd, kc, kt⟩ := k
  obtain ⟨WA, hWA⟩ : ∃ WA, WA = (w.alloc (.cells #[.int .i64 p, .slice q n cap, .int .i64 kg, .int .i64 ko, .int .i64 kn, .int .i64 kd, .int .i64 kc, .int .i64 kt] KT)).alloc (.cells #[.int .i64 0, .slice none 0 0, .int .i64 0, .int .i64 0, .int .i64 0, .int .i64 0, .int .i64 0, .int .i64 0] KT) := ⟨_, rfl⟩
  have HB := Lib.hid (show Below w.heap.size w WA from by rw [hWA]; exact ((Below.refl _ _).alloc (Nat.le_refl _) _).alloc (by simp) _)
  have HA := Lib.hid (show HasT WA w.heap.size p (.slice q n cap) ⟨kg, ko, kn, kd, kc, kt⟩ ∧ HasT WA (w.heap.size + 1) 0 (.slice none 0 0) kZ ∧ WA.heap.size = w.heap.size + 2 from by
    rw [hWA]
    exact ⟨has_old (has_new w _ _ rfl) _, has_new _ _ _ (by simp), by simp⟩)
  have HW := Lib.hid hWA
  clear hWA
  go_enter Tryd.func25, Tryd.ntmps25
  go_wp2_with fail
  rw [← HW.out]
  refine (HV.out _ (HJ.out.below HB.out)).mono ?_
  rintro e w1 ⟨rfl, hb1⟩
  have HB1 := Lib.hid (bnext HB.out hb1)
  have HC1 := Lib.hid hb1
  obtain ⟨x0, x1, x2, x3, x4, x5, x6, x7⟩ := (HA.out.1.below hb1).cells
  obtain ⟨y0, y1, y2, y3, y4, y5, y6, y7⟩ := (HA.out.2.1.below hb1).cells
  have f1 : ∀ j, w1.frozen? ⟨w.heap.size + 1, j, none⟩ = false := fun j => has_free (HA.out.2.1.below hb1) j
  clear hb1
  go_wp2_with fail
  refine bodyPost_ret (v := .tuple #[zT, .int .i64 0, .int .i64 0, .int .i64 270]) (by simp [results, Tryd.results25, go_sem, y0, y1, y2, y3, y4, y5, y6, y7]) rfl ⟨rfl, ?_⟩
  repeat (first | (with_reducible exact HB1.out) | refine below_low ?_ _ _ (by first | (simp; done) | (simp; omega)))
set_option maxHeartbeats 2000000 in
theorem rrun_arg1 (p : Int) (s : Value) (n : Nat) (f : Nat → Jb) (k : Ac) (now : Int) (w : World) (h : Jobs w s n f) (hv : okT p n f k) (hn : now < 0) :
    Calls Tryd.prog 25 #[tV p s k, .int .i64 now] w fun e w' => e = .returned (.tuple #[zT, .int .i64 0, .int .i64 0, .int .i64 1]) ∧ Below w.heap.size w w' := by
  have HV := Lib.hid (fun w (h : Jobs w s n f) => rvalid p s n f k w h)
  rw [ok_yes hv] at HV
  clear hv
  have HJ := Lib.hid h
  obtain ⟨q, cap, rfl, _, _⟩ := h
  obtain ⟨kg, ko, kn, kd, kc, kt⟩ := k
  obtain ⟨WA, hWA⟩ : ∃ WA, WA = (w.alloc (.cells #[.int .i64 p, .slice q n cap, .int .i64 kg, .int .i64 ko, .int .i64 kn, .int .i64 kd, .int .i64 kc, .int .i64 kt] KT)).alloc (.cells #[.int .i64 0, .slice none 0 0, .int .i64 0, .int .i64 0, .int .i64 0, .int .i64 0, .int .i64 0, .int .i64 0] KT) := ⟨_, rfl⟩
  have HB := Lib.hid (show Below w.heap.size w WA from by rw [hWA]; exact ((Below.refl _ _).alloc (Nat.le_refl _) _).alloc (by simp) _)
  have HA := Lib.hid (show HasT WA w.heap.size p (.slice q n cap) ⟨kg, ko, kn, kd, kc, kt⟩ ∧ HasT WA (w.heap.size + 1) 0 (.slice none 0 0) kZ ∧ WA.heap.size = w.heap.size + 2 from by
    rw [hWA]
    exact ⟨has_old (has_new w _ _ rfl) _, has_new _ _ _ (by simp), by simp⟩)
  have HW := Lib.hid hWA
  clear hWA
  go_enter Tryd.func25, Tryd.ntmps25
  go_wp2_with fail
  rw [← HW.out]
  refine (HV.out _ (HJ.out.below HB.out)).mono ?_
  rintro e w1 ⟨rfl, hb1⟩
  have HB1 := Lib.hid (bnext HB.out hb1)
  have HC1 := Lib.hid hb1
  obtain ⟨x0, x1, x2, x3, x4, x5, x6, x7⟩ := (HA.out.1.below hb1).cells
  obtain ⟨y0, y1, y2, y3, y4, y5, y6, y7⟩ := (HA.out.2.1.below hb1).cells
  have f1 : ∀ j, w1.frozen? ⟨w.heap.size + 1, j, none⟩ = false := fun j => has_free (HA.out.2.1.below hb1) j
  clear hb1
  go_wp2_with fail
  refine bodyPost_ret (v := .tuple #[zT, .int .i64 0, .int .i64 0, .int .i64 1]) (by simp [results, Tryd.results25, go_sem, y0, y1, y2, y3, y4, y5, y6, y7]) rfl ⟨rfl, ?_⟩
  repeat (first | (with_reducible exact HB1.out) | refine below_low ?_ _ _ (by first | (simp; done) | (simp; omega)))
set_option maxHeartbeats 2000000 in
theorem rrun_arg2 (p : Int) (s : Value) (n : Nat) (f : Nat → Jb) (k : Ac) (now : Int) (w : World) (h : Jobs w s n f) (hv : okT p n f k) (hn : ¬ now < 0) (hn2 : 1073741824 ≤ now) :
    Calls Tryd.prog 25 #[tV p s k, .int .i64 now] w fun e w' => e = .returned (.tuple #[zT, .int .i64 0, .int .i64 0, .int .i64 1]) ∧ Below w.heap.size w w' := by
  have HV := Lib.hid (fun w (h : Jobs w s n f) => rvalid p s n f k w h)
  rw [ok_yes hv] at HV
  clear hv
  have hnb : decide (now < 0) = false := decide_eq_false hn
  have HJ := Lib.hid h
  obtain ⟨q, cap, rfl, _, _⟩ := h
  obtain ⟨kg, ko, kn, kd, kc, kt⟩ := k
  obtain ⟨WA, hWA⟩ : ∃ WA, WA = (w.alloc (.cells #[.int .i64 p, .slice q n cap, .int .i64 kg, .int .i64 ko, .int .i64 kn, .int .i64 kd, .int .i64 kc, .int .i64 kt] KT)).alloc (.cells #[.int .i64 0, .slice none 0 0, .int .i64 0, .int .i64 0, .int .i64 0, .int .i64 0, .int .i64 0, .int .i64 0] KT) := ⟨_, rfl⟩
  have HB := Lib.hid (show Below w.heap.size w WA from by rw [hWA]; exact ((Below.refl _ _).alloc (Nat.le_refl _) _).alloc (by simp) _)
  have HA := Lib.hid (show HasT WA w.heap.size p (.slice q n cap) ⟨kg, ko, kn, kd, kc, kt⟩ ∧ HasT WA (w.heap.size + 1) 0 (.slice none 0 0) kZ ∧ WA.heap.size = w.heap.size + 2 from by
    rw [hWA]
    exact ⟨has_old (has_new w _ _ rfl) _, has_new _ _ _ (by simp), by simp⟩)
  have HW := Lib.hid hWA
  clear hWA
  go_enter Tryd.func25, Tryd.ntmps25
  go_wp2_with fail
  rw [← HW.out]
  refine (HV.out _ (HJ.out.below HB.out)).mono ?_
  rintro e w1 ⟨rfl, hb1⟩
  have HB1 := Lib.hid (bnext HB.out hb1)
  have HC1 := Lib.hid hb1
  obtain ⟨x0, x1, x2, x3, x4, x5, x6, x7⟩ := (HA.out.1.below hb1).cells
  obtain ⟨y0, y1, y2, y3, y4, y5, y6, y7⟩ := (HA.out.2.1.below hb1).cells
  have f1 : ∀ j, w1.frozen? ⟨w.heap.size + 1, j, none⟩ = false := fun j => has_free (HA.out.2.1.below hb1) j
  clear hb1
  go_wp2_with fail
  refine bodyPost_ret (v := .tuple #[zT, .int .i64 0, .int .i64 0, .int .i64 1]) (by simp [results, Tryd.results25, go_sem, y0, y1, y2, y3, y4, y5, y6, y7]) rfl ⟨rfl, ?_⟩
  repeat (first | (with_reducible exact HB1.out) | refine below_low ?_ _ _ (by first | (simp; done) | (simp; omega)))
set_option maxHeartbeats 2000000 in
theorem rrun_none (p : Int) (s : Value) (n : Nat) (f : Nat → Jb) (k : Ac) (now : Int) (w : World) (h : Jobs w s n f) (hv : okT p n f k) (hn : 0 ≤ now ∧ now < 1073741824) (h0 : n = 0) :
    Calls Tryd.prog 25 #[tV p s k, .int .i64 now] w fun e w' => e = .returned (.tuple #[zT, .int .i64 0, .int .i64 0, .int .i64 50]) ∧ Below w.heap.size w w' := by
  have HV := Lib.hid (fun w (h : Jobs w s n f) => rvalid p s n f k w h)
  rw [ok_yes hv] at HV
  clear hv
  have hnb : decide (now < 0) = false := decide_eq_false (by omega)
  have hnc : decide (1073741824 ≤ now) = false := decide_eq_false (by omega)
  have hz : decide (0 < n) = false := decide_eq_false (by omega)
  clear h0
  have HJ := Lib.hid h
  obtain ⟨q, cap, rfl, _, _⟩ := h
  obtain ⟨kg, ko, kn, kd, kc, kt⟩ := k
  obtain ⟨WA, hWA⟩ : ∃ WA, WA = (w.alloc (.cells #[.int .i64 p, .slice q n cap, .int .i64 kg, .int .i64 ko, .int .i64 kn, .int .i64 kd, .int .i64 kc, .int .i64 kt] KT)).alloc (.cells #[.int .i64 0, .slice none 0 0, .int .i64 0, .int .i64 0, .int .i64 0, .int .i64 0, .int .i64 0, .int .i64 0] KT) := ⟨_, rfl⟩
  have HB := Lib.hid (show Below w.heap.size w WA from by rw [hWA]; exact ((Below.refl _ _).alloc (Nat.le_refl _) _).alloc (by simp) _)
  have HA := Lib.hid (show HasT WA w.heap.size p (.slice q n cap) ⟨kg, ko, kn, kd, kc, kt⟩ ∧ HasT WA (w.heap.size + 1) 0 (.slice none 0 0) kZ ∧ WA.heap.size = w.heap.size + 2 from by
    rw [hWA]
    exact ⟨has_old (has_new w _ _ rfl) _, has_new _ _ _ (by simp), by simp⟩)
  have HW := Lib.hid hWA
  clear hWA
  go_enter Tryd.func25, Tryd.ntmps25
  go_wp2_with fail
  rw [← HW.out]
  refine (HV.out _ (HJ.out.below HB.out)).mono ?_
  rintro e w1 ⟨rfl, hb1⟩
  have HB1 := Lib.hid (bnext HB.out hb1)
  have HC1 := Lib.hid hb1
  obtain ⟨x0, x1, x2, x3, x4, x5, x6, x7⟩ := (HA.out.1.below hb1).cells
  obtain ⟨y0, y1, y2, y3, y4, y5, y6, y7⟩ := (HA.out.2.1.below hb1).cells
  have f1 : ∀ j, w1.frozen? ⟨w.heap.size + 1, j, none⟩ = false := fun j => has_free (HA.out.2.1.below hb1) j
  clear hb1
  go_wp2_with fail
  refine (rready p q n cap ⟨kg, ko, kn, kd, kc, kt⟩ _).mono ?_
  rintro e w3 ⟨rfl, hb3⟩
  rw [hz]
  have HB3 := Lib.hid (bnext HB1.out hb3)
  have hc3 := bnext HC1.out hb3
  clear x0 x1 x2 x3 x4 x5 x6 x7 y0 y1 y2 y3 y4 y5 y6 y7 f1
  obtain ⟨x0, x1, x2, x3, x4, x5, x6, x7⟩ := (HA.out.1.below hc3).cells
  obtain ⟨y0, y1, y2, y3, y4, y5, y6, y7⟩ := (HA.out.2.1.below hc3).cells
  have f1 : ∀ j, w3.frozen? ⟨w.heap.size + 1, j, none⟩ = false := fun j => has_free (HA.out.2.1.below hc3) j
  have HC3 := Lib.hid hc3
  clear hb3 hc3
  go_wp2_with fail
  refine bodyPost_ret (v := .tuple #[zT, .int .i64 0, .int .i64 0, .int .i64 50]) (by simp [results, Tryd.results25, go_sem, y0, y1, y2, y3, y4, y5, y6, y7]) rfl ⟨rfl, ?_⟩
  repeat (first | (with_reducible exact HB3.out) | refine below_low ?_ _ _ (by first | (simp; done) | (simp; omega)))
set_option maxHeartbeats 2000000 in
theorem rrun_time (p : Int) (s : Value) (n : Nat) (f : Nat → Jb) (k : Ac) (now : Int) (w : World) (h : Jobs w s n f) (hv : okT p n f k) (hn : 0 ≤ now ∧ now < 1073741824) (h0 : 0 < n) (hg : k.g = 1073741824) :
    Calls Tryd.prog 25 #[tV p s k, .int .i64 now] w fun e w' => e = .returned (.tuple #[zT, .int .i64 0, .int .i64 0, .int .i64 60]) ∧ Below w.heap.size w w' := by
  have HV := Lib.hid (fun w (h : Jobs w s n f) => rvalid p s n f k w h)
  rw [ok_yes hv] at HV
  clear hv
  have hnb : decide (now < 0) = false := decide_eq_false (by omega)
  have hnc : decide (1073741824 ≤ now) = false := decide_eq_false (by omega)
  have HJ := Lib.hid h
  obtain ⟨q, cap, rfl, _, _⟩ := h
  obtain ⟨kg, ko, kn, kd, kc, kt⟩ := k
  have hg2 : (kg == 1073741824) = true := by simpa using hg
  clear hg
  obtain ⟨WA, hWA⟩ : ∃ WA, WA = (w.alloc (.cells #[.int .i64 p, .slice q n cap, .int .i64 kg, .int .i64 ko, .int .i64 kn, .int .i64 kd, .int .i64 kc, .int .i64 kt] KT)).alloc (.cells #[.int .i64 0, .slice none 0 0, .int .i64 0, .int .i64 0, .int .i64 0, .int .i64 0, .int .i64 0, .int .i64 0] KT) := ⟨_, rfl⟩
  have HB := Lib.hid (show Below w.heap.size w WA from by rw [hWA]; exact ((Below.refl _ _).alloc (Nat.le_refl _) _).alloc (by simp) _)
  have HA := Lib.hid (show HasT WA w.heap.size p (.slice q n cap) ⟨kg, ko, kn, kd, kc, kt⟩ ∧ HasT WA (w.heap.size + 1) 0 (.slice none 0 0) kZ ∧ WA.heap.size = w.heap.size + 2 from by
    rw [hWA]
    exact ⟨has_old (has_new w _ _ rfl) _, has_new _ _ _ (by simp), by simp⟩)
  have HW := Lib.hid hWA
  clear hWA
  go_enter Tryd.func25, Tryd.ntmps25
  go_wp2_with fail
  rw [← HW.out]
  refine (HV.out _ (HJ.out.below HB.out)).mono ?_
  rintro e w1 ⟨rfl, hb1⟩
  have HB1 := Lib.hid (bnext HB.out hb1)
  have HC1 := Lib.hid hb1
  obtain ⟨x0, x1, x2, x3, x4, x5, x6, x7⟩ := (HA.out.1.below hb1).cells
  obtain ⟨y0, y1, y2, y3, y4, y5, y6, y7⟩ := (HA.out.2.1.below hb1).cells
  have f1 : ∀ j, w1.frozen? ⟨w.heap.size + 1, j, none⟩ = false := fun j => has_free (HA.out.2.1.below hb1) j
  clear hb1
  go_wp2_with fail
  refine (rready p q n cap ⟨kg, ko, kn, kd, kc, kt⟩ _).mono ?_
  rintro e w3 ⟨rfl, hb3⟩
  have HB3 := Lib.hid (bnext HB1.out hb3)
  have hc3 := bnext HC1.out hb3
  clear x0 x1 x2 x3 x4 x5 x6 x7 y0 y1 y2 y3 y4 y5 y6 y7 f1
  obtain ⟨x0, x1, x2, x3, x4, x5, x6, x7⟩ := (HA.out.1.below hc3).cells
  obtain ⟨y0, y1, y2, y3, y4, y5, y6, y7⟩ := (HA.out.2.1.below hc3).cells
  have f1 : ∀ j, w3.frozen? ⟨w.heap.size + 1, j, none⟩ = false := fun j => has_free (HA.out.2.1.below hc3) j
  have HC3 := Lib.hid hc3
  clear hb3 hc3
  go_wp2_with fail
  refine bodyPost_ret (v := .tuple #[zT, .int .i64 0, .int .i64 0, .int .i64 60]) (by simp [results, Tryd.results25, go_sem, y0, y1, y2, y3, y4, y5, y6, y7]) rfl ⟨rfl, ?_⟩
  repeat (first | (with_reducible exact HB3.out) | refine below_low ?_ _ _ (by first | (simp; done) | (simp; omega)))
/-- What a tick makes of the first job: the job, what became of it, how late it was, the account. -/
def runJ (j : Jb) : Jb := ⟨j.l - 1, if 0 < j.c then j.c - 1 else j.c, j.a, j.d⟩
def runW (j : Jb) : Int := if j.l = 1 then 1 else if j.c = 1 then 2 else 0
def runL (j : Jb) (now : Int) : Int := if (j.l = 1 ∨ j.c = 1) ∧ 0 < j.d ∧ 0 < now + 1 - j.a - j.d then now + 1 - j.a - j.d else 0
def runK (k : Ac) (j : Jb) (now : Int) : Ac := ⟨k.g + 1, k.o + 1, k.n, if j.l = 1 then k.d + 1 else k.d, if j.l ≠ 1 ∧ j.c = 1 then k.c + 1 else k.c, if (j.l = 1 ∨ j.c = 1) ∧ 0 < j.d ∧ 0 < now + 1 - j.a - j.d then k.t + 1 else k.t⟩
def runN (n : Nat) (j : Jb) : Nat := if j.l = 1 ∨ j.c = 1 then n - 1 else n
def runF (f : Nat → Jb) : Nat → Jb := if (f 0).l = 1 ∨ (f 0).c = 1 then fun i => f (i + 1) else upd f 0 (runJ (f 0))
/-- What is answered: a task whose jobs read so. -/
def TaskR (w : World) (p : Int) (n : Nat) (f : Nat → Jb) (k : Ac) (x : Value) (w' : World) : Prop := ∃ s, x = tV p s k ∧ Jobs w' s n f ∧ Below w.heap.size w w'
theorem ac_eq {g o m d c t g' o' m' d' c' t' : Int} (h1 : g = g') (h2 : o = o') (h3 : m = m') (h4 : d = d') (h5 : c = c') (h6 : t = t') : (⟨g, o, m, d, c, t⟩ : Ac) = ⟨g', o', m', d', c', t'⟩ := by rw [h1, h2, h3, h4, h5, h6]
theorem ret_run {x : Value} {a b a' b' : Int} (h1 : a = a') (h2 : b = b') : Ending.returned (.tuple #[x, .int .i64 a, .int .i64 b, .int .i64 0]) = .returned (.tuple #[x, .int .i64 a', .int .i64 b', .int .i64 0]) := by rw [h1, h2]
theorem task_run {w w' : World} {p : Int} {s : Value} {g o m d c t : Int} {n n' : Nat} {f f' : Nat → Jb} {k : Ac} (hk : k = ⟨g, o, m, d, c, t⟩) (hn : n' = n) (hf : ∀ i, i < n → f i = f' i) (hj : Jobs w' s n f) (hb : Below w.heap.size w w') : TaskR w p n' f' k (tV p s ⟨g, o, m, d, c, t⟩) w' := by
  subst hk hn
  exact ⟨s, rfl, hj.congr hf, hb⟩
theorem jobs_tail {B n c4 : Nat} {W : World} {g : Nat} {F : Nat → Jb} (h : JobsO B W (.slice (some ⟨g, 0, none⟩) n c4) n F) (hn : n ≤ 9223372036854775807) : Jobs W (.slice (some ⟨g, 4, none⟩) (n - 1) (c4 - 1)) (n - 1) (fun i => F (i + 1)) := by
  refine ⟨_, _, rfl, by omega, fun j hj => ⟨g, 4, rfl, ?_⟩⟩
  obtain ⟨c0, c1, c2, c3⟩ := jbL_at F (show j + 1 < n by omega)
  have e := fun i (hi : i < 4) => World.ownsRow.cellAt h ((j + 1) * 4 + i) (by omega)
  have e0 := (e 0 (by omega)).trans c0
  have e1 := (e 1 (by omega)).trans c1
  have e2 := (e 2 (by omega)).trans c2
  have e3 := (e 3 (by omega)).trans c3
  rw [show (j + 1) * 4 + 0 = 4 + j * 4 by omega] at e0
  rw [show (j + 1) * 4 + 1 = 4 + j * 4 + 1 by omega] at e1
  rw [show (j + 1) * 4 + 2 = 4 + j * 4 + 2 by omega] at e2
  rw [show (j + 1) * 4 + 3 = 4 + j * 4 + 3 by omega] at e3
  exact ⟨e0, e1, e2, e3⟩
theorem jobs_none (W : World) (g : Option Addr) (m c : Nat) (F : Nat → Jb) (h : m = 0) : Jobs W (.slice g m c) m F := by
  subst h
  exact ⟨_, _, rfl, by omega, fun j hj => by omega⟩
/-- The task is a twin of its own, in its block, and has a job. -/
def Ran0 (w : World) (p : Int) (n : Nat) (f : Nat → Jb) (k : Ac) (wx : World) : Prop := ∃ g c4, HasT wx w.heap.size p (.slice (some ⟨g, 0, none⟩) n c4) k ∧ HasT wx (w.heap.size + 1) 0 (.slice none 0 0) kZ ∧ JobsO (w.heap.size + 2) wx (.slice (some ⟨g, 0, none⟩) n c4) n f ∧ Below w.heap.size w wx
theorem Ran0.made {w w4 : World} {p : Int} {n : Nat} {f : Nat → Jb} {k : Ac} {s : Value} {s4 : Option Addr} {c4 : Nat} (h1 : HasT w4 w.heap.size p s k) (h3 : HasT w4 (w.heap.size + 1) 0 (.slice none 0 0) kZ) (h4 : JobsO (w.heap.size + 2) w4 (.slice s4 n c4) n f) (h5 : Below w.heap.size w w4) (h0 : 0 < n) :
    Ran0 w p n f k ((((((((w4.setCell ⟨w.heap.size, 0, none⟩ (.int .i64 p)).setCell ⟨w.heap.size, 1, none⟩ (.slice s4 n c4)).setCell ⟨w.heap.size, 2, none⟩ (.int .i64 k.g)).setCell ⟨w.heap.size, 3, none⟩ (.int .i64 k.o)).setCell ⟨w.heap.size, 4, none⟩ (.int .i64 k.n)).setCell ⟨w.heap.size, 5, none⟩ (.int .i64 k.d)).setCell ⟨w.heap.size, 6, none⟩ (.int .i64 k.c)).setCell ⟨w.heap.size, 7, none⟩ (.int .i64 k.t)) := by
  obtain ⟨g, cap, e, _, _, _⟩ := own_block2 h4 h0
  cases e
  refine ⟨g, c4, HasT.set8 h1, ?_, ?_, ?_⟩
  · unfold HasT
    iterate 8 refine has_other ?_ _ _ (by show w.heap.size ≠ w.heap.size + 1; omega)
    exact h3
  · iterate 8 refine own_low ?_ _ _ (by show w.heap.size < w.heap.size + 2; omega)
    exact h4
  · iterate 8 refine below_low ?_ _ _ (Nat.le_refl _)
    exact h5
set_option maxHeartbeats 4000000 in
set_option maxRecDepth 100000 in
theorem rrun_ok (p : Int) (s : Value) (n : Nat) (f : Nat → Jb) (k : Ac) (now : Int) (w : World) (h : Jobs w s n f) (hv : okT p n f k) (hn : 0 ≤ now ∧ now < 1073741824) (h0 : 0 < n) (hg : k.g < 1073741824) :
    Calls Tryd.prog 25 #[tV p s k, .int .i64 now] w fun e w' => ∃ x, e = .returned (.tuple #[x, .int .i64 (runW (f 0)), .int .i64 (runL (f 0) now), .int .i64 0]) ∧ TaskR w p (runN n (f 0)) (runF f) (runK k (f 0) now) x w' := by
  have HV := Lib.hid (fun w (h : Jobs w s n f) => rvalid p s n f k w h)
  rw [ok_yes hv] at HV
  have HOK := Lib.hid hv
  clear hv
  have hnb : decide (now < 0) = false := decide_eq_false (by omega)
  have hnc : decide (1073741824 ≤ now) = false := decide_eq_false (by omega)
  have hz : decide (0 < n) = true := decide_eq_true h0
  have HJ := Lib.hid h
  obtain ⟨q, cap, rfl, _, _⟩ := h
  obtain ⟨kg, ko, kn, kd, kc, kt⟩ := k
  have hg2 : kg < 1073741824 := hg
  have hg3 : (kg == 1073741824) = false := by simp; omega
  clear hg
  obtain ⟨WA, hWA⟩ : ∃ WA, WA = (w.alloc (.cells #[.int .i64 p, .slice q n cap, .int .i64 kg, .int .i64 ko, .int .i64 kn, .int .i64 kd, .int .i64 kc, .int .i64 kt] KT)).alloc (.cells #[.int .i64 0, .slice none 0 0, .int .i64 0, .int .i64 0, .int .i64 0, .int .i64 0, .int .i64 0, .int .i64 0] KT) := ⟨_, rfl⟩
  have HB := Lib.hid (show Below w.heap.size w WA from by rw [hWA]; exact ((Below.refl _ _).alloc (Nat.le_refl _) _).alloc (by simp) _)
  have HA := Lib.hid (show HasT WA w.heap.size p (.slice q n cap) ⟨kg, ko, kn, kd, kc, kt⟩ ∧ HasT WA (w.heap.size + 1) 0 (.slice none 0 0) kZ ∧ WA.heap.size = w.heap.size + 2 from by
    rw [hWA]
    exact ⟨has_old (has_new w _ _ rfl) _, has_new _ _ _ (by simp), by simp⟩)
  have HW := Lib.hid hWA
  clear hWA
  go_enter Tryd.func25, Tryd.ntmps25
  go_wp2_with fail
  rw [← HW.out]
  refine (HV.out _ (HJ.out.below HB.out)).mono ?_
  rintro e w1 ⟨rfl, hb1⟩
  have HB1 := Lib.hid (bnext HB.out hb1)
  have HC1 := Lib.hid hb1
  obtain ⟨x0, x1, x2, x3, x4, x5, x6, x7⟩ := (HA.out.1.below hb1).cells
  obtain ⟨y0, y1, y2, y3, y4, y5, y6, y7⟩ := (HA.out.2.1.below hb1).cells
  have f1 : ∀ j, w1.frozen? ⟨w.heap.size + 1, j, none⟩ = false := fun j => has_free (HA.out.2.1.below hb1) j
  clear hb1
  go_wp2_with fail
  refine (rready p q n cap ⟨kg, ko, kn, kd, kc, kt⟩ _).mono ?_
  rintro e w3 ⟨rfl, hb3⟩
  rw [hz]
  have HB3 := Lib.hid (bnext HB1.out hb3)
  have hc3 := bnext HC1.out hb3
  clear x0 x1 x2 x3 x4 x5 x6 x7 y0 y1 y2 y3 y4 y5 y6 y7 f1
  obtain ⟨x0, x1, x2, x3, x4, x5, x6, x7⟩ := (HA.out.1.below hc3).cells
  obtain ⟨y0, y1, y2, y3, y4, y5, y6, y7⟩ := (HA.out.2.1.below hc3).cells
  have f1 : ∀ j, w3.frozen? ⟨w.heap.size + 1, j, none⟩ = false := fun j => has_free (HA.out.2.1.below hc3) j
  have HC3 := Lib.hid hc3
  clear hb3 hc3
  go_upto_region 9 with fail
  go_cut [] (fun wx => Ran0 w p n f ⟨kg, ko, kn, kd, kc, kt⟩ wx)
  case first =>
    go_wp2_with fail
    refine (rtwin p (.slice q n cap) n f ⟨kg, ko, kn, kd, kc, kt⟩ _ (HJ.out.below HB3.out) (by have := HOK.out.2.1; omega)).mono ?_
    rintro e w4 ⟨x, rfl, s4, c4, rfl, ho4, hb4⟩
    have hc4 := bnext HC3.out hb4
    have HP := Lib.hid (Ran0.made (HA.out.1.below hc4) (HA.out.2.1.below hc4) (own_base2 ho4 (show w.heap.size + 2 ≤ w3.heap.size from by have := HC3.out.size; have := HA.out.2.2; omega)) (bnext HB3.out hb4) h0)
    clear x0 x1 x2 x3 x4 x5 x6 x7 y0 y1 y2 y3 y4 y5 y6 y7 f1
    obtain ⟨x0, x1, x2, x3, x4, x5, x6, x7⟩ := (HA.out.1.below hc4).cells
    obtain ⟨y0, y1, y2, y3, y4, y5, y6, y7⟩ := (HA.out.2.1.below hc4).cells
    have f1 : ∀ j, w4.frozen? ⟨w.heap.size + 1, j, none⟩ = false := fun j => has_free (HA.out.2.1.below hc4) j
    have f0 : ∀ j, w4.frozen? ⟨w.heap.size, j, none⟩ = false := fun j => has_free (HA.out.1.below hc4) j
    clear hb4 hc4 ho4
    go_wp2_with fail
    go_meet
    exact HP.out
  case rest =>
    obtain ⟨g, c4, h1, h2, h3, h4⟩ := hcut
    have hkj := HOK.out.2.2.1 0 h0
    have hkn := HOK.out.2.1
    obtain ⟨⟨_, ho1, hz3⟩, hd1, hd2, hd3⟩ := (okA_mk _ _ _ _ _ _).1 HOK.out.2.2.2
    have ho2 : 0 ≤ ko := by omega
    have ho3 : ko < 1073741824 := by omega
    obtain ⟨b0, b1, b2, b3⟩ := jbL_at f h0
    have e0 : wc.cell? ⟨g, 0, none⟩ = some (.int .i64 (f 0).l) := (World.ownsRow.cellAt h3 0 (by omega)).trans b0
    have e1 : wc.cell? ⟨g, 1, none⟩ = some (.int .i64 (f 0).c) := (World.ownsRow.cellAt h3 1 (by omega)).trans b1
    have e2 : wc.cell? ⟨g, 2, none⟩ = some (.int .i64 (f 0).a) := (World.ownsRow.cellAt h3 2 (by omega)).trans b2
    have e3 : wc.cell? ⟨g, 3, none⟩ = some (.int .i64 (f 0).d) := (World.ownsRow.cellAt h3 3 (by omega)).trans b3
    have S1 := Lib.hid (fun jb x y => St.ran h1 h2 h3 h4 jb x y)
    obtain ⟨x0, x1, x2, x3, x4, x5, x6, x7⟩ := h1.cells
    have f0 : ∀ j, wc.frozen? ⟨w.heap.size, j, none⟩ = false := fun j => has_free h1 j
    have f2 : ∀ j, wc.frozen? ⟨g, j, none⟩ = false := fun j => World.ownsRow.frozenAt h3 j
    have hgs : w.heap.size + 2 ≤ g ∧ g < wc.heap.size := World.ownsRow.lt h3 g rfl
    obtain ⟨hg1, hg4⟩ := hgs
    have hn0 : (0 : Int) < (n : Int) := by omega
    obtain ⟨jb, hjb⟩ : ∃ jb, jb = f 0 := ⟨_, rfl⟩
    rw [← hjb] at e0 e1 e2 e3 hkj
    obtain ⟨l, c, a, d⟩ := jb
    have HF0 := Lib.hid (show f 0 = ⟨l, c, a, d⟩ from hjb.symm)
    have HNC := Lib.hid (show n ≤ c4 from by obtain ⟨_, _, e, h, _⟩ := own_block2 h3 h0; cases e; exact h)
    dsimp only at e0 e1 e2 e3
    clear hjb
    obtain ⟨⟨l1, l2⟩, ⟨c1', c2'⟩, ⟨a1', a2'⟩, d1', d2'⟩ := (okJ_mk _ _ _ _).1 hkj
    have hsl : w.heap.size < wc.heap.size := by omega
    have hsl1 : w.heap.size + 1 < wc.heap.size := by omega
    clear h1 h2 h3 h4 b0 b1 b2 b3 hkj ho1 hz3
    by_cases hc0 : 0 < c
    · skip
      have S7 := Lib.hid (S1.out ⟨l - 1, c - 1, a, d⟩ (kg + 1) (ko + 1))
      go_upto_region 17 with fail
      go_cut [8] (fun jv wx => ∃ J, jv = .pointer (some ⟨J, 0, none⟩) ∧ St w p (.slice (some ⟨g, 0, none⟩) n c4) ⟨kg + 1, ko + 1, kn, kd, kc, kt⟩ J ⟨l - 1, c - 1, a, d⟩ g n c4 (upd f 0 ⟨l - 1, c - 1, a, d⟩) wx)
      case first =>
        go_wp2_with fail
        go_meet
        exact ⟨_, rfl, S7.out⟩
      case rest =>
        obtain ⟨wc0, rfl, hcut⟩ := hcut
        have S8 := Lib.hid hcut
        obtain ⟨x0, x1, x2, x3, x4, x5, x6, x7⟩ := hcut.t.cells
        obtain ⟨y0, y1, y2, y3, y4, y5, y6, y7⟩ := hcut.r.cells
        obtain ⟨j0, j1, j2, j3⟩ := hcut.j.cells
        have f3 : ∀ j, wc.frozen? ⟨w.heap.size, j, none⟩ = false := fun j => has_free hcut.t j
        have f4 : ∀ j, wc.frozen? ⟨w.heap.size + 1, j, none⟩ = false := fun j => has_free hcut.r j
        have hJl : w.heap.size + 2 ≤ wc0 := hcut.Jl
        have hsw : w.heap.size + 1 < wc.heap.size := has_lt hcut.r
        clear hcut S7 S1 f0 f2 e0 e1 e2 e3
        by_cases q1 : l = 1
        · have q2 : (l - 1 == 0) = true := by simp; omega
          have HRF := Lib.hid (show runF f = fun i => f (i + 1) from if_pos (.inl (by rw [HF0.out]; exact q1)))
          go_wp2_with fail
          all_goals
            apply bodyPost_ret
            · simp [results, Tryd.results25, go_sem, y0, y1, y2, y3, y4, y5, y6, y7]
              exact rfl
            · rfl
            · rw [HF0.out]
              refine ⟨_, ret_run (by unfold runW; dsimp only; (repeat' split) <;> omega) (by unfold runL; dsimp only; (repeat' split) <;> omega), ?_⟩
              have hK0 := HNC.out
              first
                | (refine task_run (ac_eq rfl rfl rfl ?_ ?_ ?_) ?_ (fun i hi => rfl) (jobs_none _ _ _ _ (runF f) (by omega)) ?_)
                | (refine task_run (ac_eq rfl rfl rfl ?_ ?_ ?_) ?_ (fun i hi => ?_) (jobs_tail (B := w.heap.size + 2) (F := upd f 0 ⟨l - 1, c - 1, a, d⟩) ?_ (by omega)) ?_)
                | (refine task_run (ac_eq rfl rfl rfl ?_ ?_ ?_) ?_ (fun i hi => ?_) (own_jobs (B := w.heap.size + 2) (f := upd f 0 ⟨l - 1, c - 1, a, d⟩) ?_ (by omega)) ?_)
              all_goals first
                | (dsimp only; (repeat' split) <;> omega)
                | (unfold runN; dsimp only; (repeat' split) <;> omega)
                | (rw [HRF.out]; done)
                | (rw [HRF.out]; exact upd_ne _ (by omega))
                | (refine own_low ?_ _ _ (by first | (simp; done) | (simp; omega)); repeat (first | (with_reducible exact S8.out.row) | refine own_low ?_ _ _ (by first | (simp; done) | (simp; omega))))
                | (repeat (first | (with_reducible exact S8.out.below) | refine below_low ?_ _ _ (by first | (simp; done) | (simp; omega))))
        · have q2 : (l - 1 == 0) = false := by simp; omega
          by_cases q3 : c = 1
          · have q4 : (c - 1 == 0) = true := by simp; omega
            have HRF := Lib.hid (show runF f = fun i => f (i + 1) from if_pos (.inr (by rw [HF0.out]; exact q3)))
            go_wp2_with fail
            all_goals
              apply bodyPost_ret
              · simp [results, Tryd.results25, go_sem, y0, y1, y2, y3, y4, y5, y6, y7]
                exact rfl
              · rfl
              · rw [HF0.out]
                refine ⟨_, ret_run (by unfold runW; dsimp only; (repeat' split) <;> omega) (by unfold runL; dsimp only; (repeat' split) <;> omega), ?_⟩
                have hK0 := HNC.out
                first
                  | (refine task_run (ac_eq rfl rfl rfl ?_ ?_ ?_) ?_ (fun i hi => rfl) (jobs_none _ _ _ _ (runF f) (by omega)) ?_)
                  | (refine task_run (ac_eq rfl rfl rfl ?_ ?_ ?_) ?_ (fun i hi => ?_) (jobs_tail (B := w.heap.size + 2) (F := upd f 0 ⟨l - 1, c - 1, a, d⟩) ?_ (by omega)) ?_)
                  | (refine task_run (ac_eq rfl rfl rfl ?_ ?_ ?_) ?_ (fun i hi => ?_) (own_jobs (B := w.heap.size + 2) (f := upd f 0 ⟨l - 1, c - 1, a, d⟩) ?_ (by omega)) ?_)
                all_goals first
                  | (dsimp only; (repeat' split) <;> omega)
                  | (unfold runN; dsimp only; (repeat' split) <;> omega)
                  | (rw [HRF.out]; done)
                  | (rw [HRF.out]; exact upd_ne _ (by omega))
                  | (refine own_low ?_ _ _ (by first | (simp; done) | (simp; omega)); repeat (first | (with_reducible exact S8.out.row) | refine own_low ?_ _ _ (by first | (simp; done) | (simp; omega))))
                  | (repeat (first | (with_reducible exact S8.out.below) | refine below_low ?_ _ _ (by first | (simp; done) | (simp; omega))))
          · have q4 : (c - 1 == 0) = false := by simp; omega
            have HRF := Lib.hid (show runF f = upd f 0 ⟨l - 1, c - 1, a, d⟩ from by
              unfold runF
              rw [HF0.out, if_neg (by dsimp only; omega)]
              unfold runJ
              dsimp only
              rw [if_pos hc0])
            go_wp2_with fail
            all_goals
              apply bodyPost_ret
              · simp [results, Tryd.results25, go_sem, y0, y1, y2, y3, y4, y5, y6, y7]
                exact rfl
              · rfl
              · rw [HF0.out]
                refine ⟨_, ret_run (by unfold runW; dsimp only; (repeat' split) <;> omega) (by unfold runL; dsimp only; (repeat' split) <;> omega), ?_⟩
                have hK0 := HNC.out
                first
                  | (refine task_run (ac_eq rfl rfl rfl ?_ ?_ ?_) ?_ (fun i hi => rfl) (jobs_none _ _ _ _ (runF f) (by omega)) ?_)
                  | (refine task_run (ac_eq rfl rfl rfl ?_ ?_ ?_) ?_ (fun i hi => ?_) (jobs_tail (B := w.heap.size + 2) (F := upd f 0 ⟨l - 1, c - 1, a, d⟩) ?_ (by omega)) ?_)
                  | (refine task_run (ac_eq rfl rfl rfl ?_ ?_ ?_) ?_ (fun i hi => ?_) (own_jobs (B := w.heap.size + 2) (f := upd f 0 ⟨l - 1, c - 1, a, d⟩) ?_ (by omega)) ?_)
                all_goals first
                  | (dsimp only; (repeat' split) <;> omega)
                  | (unfold runN; dsimp only; (repeat' split) <;> omega)
                  | (rw [HRF.out]; done)
                  | (rw [HRF.out]; exact upd_ne _ (by omega))
                  | (refine own_low ?_ _ _ (by first | (simp; done) | (simp; omega)); repeat (first | (with_reducible exact S8.out.row) | refine own_low ?_ _ _ (by first | (simp; done) | (simp; omega))))
                  | (repeat (first | (with_reducible exact S8.out.below) | refine below_low ?_ _ _ (by first | (simp; done) | (simp; omega))))
    · have S7 := Lib.hid (S1.out ⟨l - 1, c, a, d⟩ (kg + 1) (ko + 1))
      go_upto_region 17 with fail
      go_cut [8] (fun jv wx => ∃ J, jv = .pointer (some ⟨J, 0, none⟩) ∧ St w p (.slice (some ⟨g, 0, none⟩) n c4) ⟨kg + 1, ko + 1, kn, kd, kc, kt⟩ J ⟨l - 1, c, a, d⟩ g n c4 (upd f 0 ⟨l - 1, c, a, d⟩) wx)
      case first =>
        go_wp2_with fail
        go_meet
        exact ⟨_, rfl, S7.out⟩
      case rest =>
        obtain ⟨wc0, rfl, hcut⟩ := hcut
        have S8 := Lib.hid hcut
        obtain ⟨x0, x1, x2, x3, x4, x5, x6, x7⟩ := hcut.t.cells
        obtain ⟨y0, y1, y2, y3, y4, y5, y6, y7⟩ := hcut.r.cells
        obtain ⟨j0, j1, j2, j3⟩ := hcut.j.cells
        have f3 : ∀ j, wc.frozen? ⟨w.heap.size, j, none⟩ = false := fun j => has_free hcut.t j
        have f4 : ∀ j, wc.frozen? ⟨w.heap.size + 1, j, none⟩ = false := fun j => has_free hcut.r j
        have hJl : w.heap.size + 2 ≤ wc0 := hcut.Jl
        have hsw : w.heap.size + 1 < wc.heap.size := has_lt hcut.r
        clear hcut S7 S1 f0 f2 e0 e1 e2 e3
        by_cases q1 : l = 1
        · have q2 : (l - 1 == 0) = true := by simp; omega
          have HRF := Lib.hid (show runF f = fun i => f (i + 1) from if_pos (.inl (by rw [HF0.out]; exact q1)))
          go_wp2_with fail
          all_goals
            apply bodyPost_ret
            · simp [results, Tryd.results25, go_sem, y0, y1, y2, y3, y4, y5, y6, y7]
              exact rfl
            · rfl
            · rw [HF0.out]
              refine ⟨_, ret_run (by unfold runW; dsimp only; (repeat' split) <;> omega) (by unfold runL; dsimp only; (repeat' split) <;> omega), ?_⟩
              have hK0 := HNC.out
              first
                | (refine task_run (ac_eq rfl rfl rfl ?_ ?_ ?_) ?_ (fun i hi => rfl) (jobs_none _ _ _ _ (runF f) (by omega)) ?_)
                | (refine task_run (ac_eq rfl rfl rfl ?_ ?_ ?_) ?_ (fun i hi => ?_) (jobs_tail (B := w.heap.size + 2) (F := upd f 0 ⟨l - 1, c, a, d⟩) ?_ (by omega)) ?_)
                | (refine task_run (ac_eq rfl rfl rfl ?_ ?_ ?_) ?_ (fun i hi => ?_) (own_jobs (B := w.heap.size + 2) (f := upd f 0 ⟨l - 1, c, a, d⟩) ?_ (by omega)) ?_)
              all_goals first
                | (dsimp only; (repeat' split) <;> omega)
                | (unfold runN; dsimp only; (repeat' split) <;> omega)
                | (rw [HRF.out]; done)
                | (rw [HRF.out]; exact upd_ne _ (by omega))
                | (refine own_low ?_ _ _ (by first | (simp; done) | (simp; omega)); repeat (first | (with_reducible exact S8.out.row) | refine own_low ?_ _ _ (by first | (simp; done) | (simp; omega))))
                | (repeat (first | (with_reducible exact S8.out.below) | refine below_low ?_ _ _ (by first | (simp; done) | (simp; omega))))
        · have q2 : (l - 1 == 0) = false := by simp; omega
          have HRF := Lib.hid (show runF f = upd f 0 ⟨l - 1, c, a, d⟩ from by
              unfold runF
              rw [HF0.out, if_neg (by dsimp only; omega)]
              unfold runJ
              dsimp only
              rw [if_neg hc0])
          go_wp2_with fail
          all_goals
            apply bodyPost_ret
            · simp [results, Tryd.results25, go_sem, y0, y1, y2, y3, y4, y5, y6, y7]
              exact rfl
            · rfl
            · rw [HF0.out]
              refine ⟨_, ret_run (by unfold runW; dsimp only; (repeat' split) <;> omega) (by unfold runL; dsimp only; (repeat' split) <;> omega), ?_⟩
              have hK0 := HNC.out
              first
                | (refine task_run (ac_eq rfl rfl rfl ?_ ?_ ?_) ?_ (fun i hi => rfl) (jobs_none _ _ _ _ (runF f) (by omega)) ?_)
                | (refine task_run (ac_eq rfl rfl rfl ?_ ?_ ?_) ?_ (fun i hi => ?_) (jobs_tail (B := w.heap.size + 2) (F := upd f 0 ⟨l - 1, c, a, d⟩) ?_ (by omega)) ?_)
                | (refine task_run (ac_eq rfl rfl rfl ?_ ?_ ?_) ?_ (fun i hi => ?_) (own_jobs (B := w.heap.size + 2) (f := upd f 0 ⟨l - 1, c, a, d⟩) ?_ (by omega)) ?_)
              all_goals first
                | (dsimp only; (repeat' split) <;> omega)
                | (unfold runN; dsimp only; (repeat' split) <;> omega)
                | (rw [HRF.out]; done)
                | (rw [HRF.out]; exact upd_ne _ (by omega))
                | (refine own_low ?_ _ _ (by first | (simp; done) | (simp; omega)); repeat (first | (with_reducible exact S8.out.row) | refine own_low ?_ _ _ (by first | (simp; done) | (simp; omega))))
                | (repeat (first | (with_reducible exact S8.out.below) | refine below_low ?_ _ _ (by first | (simp; done) | (simp; omega))))
/-- The error of a run. -/
def runE (p : Int) (n : Nat) (f : Nat → Jb) (k : Ac) (now : Int) : Int :=
  if ¬ okT p n f k then 270 else if ¬ (0 ≤ now ∧ now < 1073741824) then 1 else if n = 0 then 50 else if k.g = 1073741824 then 60 else 0
theorem zero_taskR {w w' : World} (f : Nat → Jb) (hb : Below w.heap.size w w') : TaskR w 0 0 f kZ zT w' := ⟨_, rfl, jobs_none _ _ _ _ _ rfl, hb⟩
/-- Run, every way. -/
theorem rrun_any (p : Int) (s : Value) (n : Nat) (f : Nat → Jb) (k : Ac) (now : Int) (w : World) (h : Jobs w s n f) :
    Calls Tryd.prog 25 #[tV p s k, .int .i64 now] w fun e w' => ∃ x, e = .returned (.tuple #[x, .int .i64 (if runE p n f k now = 0 then runW (f 0) else 0), .int .i64 (if runE p n f k now = 0 then runL (f 0) now else 0), .int .i64 (runE p n f k now)]) ∧
      TaskR w (if runE p n f k now = 0 then p else 0) (if runE p n f k now = 0 then runN n (f 0) else 0) (runF f) (if runE p n f k now = 0 then runK k (f 0) now else kZ) x w' := by
  by_cases hv : okT p n f k
  · by_cases hn : 0 ≤ now ∧ now < 1073741824
    · by_cases h0 : n = 0
      · have hE : runE p n f k now = 50 := by unfold runE; rw [if_neg (fun h => h hv), if_neg (fun h => h hn), if_pos h0]
        rw [hE]
        exact (rrun_none p s n f k now w h hv hn h0).mono fun e w' ⟨he, hb⟩ => ⟨_, he, zero_taskR _ hb⟩
      · by_cases hg : k.g = 1073741824
        · have hE : runE p n f k now = 60 := by unfold runE; rw [if_neg (fun h => h hv), if_neg (fun h => h hn), if_neg h0, if_pos hg]
          rw [hE]
          exact (rrun_time p s n f k now w h hv hn (by omega) hg).mono fun e w' ⟨he, hb⟩ => ⟨_, he, zero_taskR _ hb⟩
        · have hE : runE p n f k now = 0 := by unfold runE; rw [if_neg (fun h => h hv), if_neg (fun h => h hn), if_neg h0, if_neg hg]
          rw [hE]
          have hk := hv.2.2.2.1.1.2
          exact (rrun_ok p s n f k now w h hv hn (by omega) (by omega)).mono fun e w' ⟨x, he, hb⟩ => ⟨x, he, hb⟩
    · have hE : runE p n f k now = 1 := by unfold runE; rw [if_neg (fun h => h hv), if_pos hn]
      rw [hE]
      by_cases h1 : now < 0
      · exact (rrun_arg1 p s n f k now w h hv h1).mono fun e w' ⟨he, hb⟩ => ⟨_, he, zero_taskR _ hb⟩
      · exact (rrun_arg2 p s n f k now w h hv h1 (by omega)).mono fun e w' ⟨he, hb⟩ => ⟨_, he, zero_taskR _ hb⟩
  · have hE : runE p n f k now = 270 := if_pos hv
    rw [hE]
    exact (rrun_state p s n f k now w h hv).mono fun e w' ⟨he, hb⟩ => ⟨_, he, zero_taskR _ hb⟩
end Go.Proofs.YtpfhebfkhailfaaDoor
