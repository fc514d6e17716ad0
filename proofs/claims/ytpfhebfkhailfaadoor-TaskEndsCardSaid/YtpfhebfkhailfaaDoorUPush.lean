/- The program's task: Push; no condition but those that each row names. -/
import Derived.Test.YtpfhebfkhailfaaDoorUQueue
namespace Go.Proofs.YtpfhebfkhailfaaDoor
open Go.RowKit Go.Shelf Tsk

theorem okT_c {p : Int} {n : Nat} {f : Nat → Jb} {k : Ac} (hv : okT p n f k) : k.c ≤ 9223372036854775807 := by
  have h1 := hv.2.2.2.2.2.1
  have h2 := hv.2.2.2.1.1.2
  have h3 := hv.2.2.2.2.1.1
  omega
theorem arrJ2 (u0 u1 u2 u3 v : Value) : #[u0, u1, u2, u3].setIfInBounds 2 v = #[u0, u1, v, u3] := by rw [← Array.toList_inj, Array.toList_setIfInBounds]; rfl
theorem HasJ.set2 {W : World} {g : Nat} {j : Jb} (h : HasJ W g j) (x : Int) : HasJ (W.setCell ⟨g, 2, none⟩ (.int .i64 x)) g ⟨j.l, j.c, x, j.d⟩ := by have a := has_set h 2 (.int .i64 x); rwa [arrJ2] at a
/-- The blocks that the program's Push works on. -/
structure PS (w : World) (p : Int) (sv : Value) (k : Ac) (j : Jb) (wx : World) : Prop where
  t : HasT wx w.heap.size p sv k
  j : HasJ wx (w.heap.size + 1) j
  r : HasT wx (w.heap.size + 1 + 1) 0 (.slice none 0 0) kZ
  below : Below w.heap.size w wx
  sz : w.heap.size + 3 ≤ wx.heap.size
theorem PS.turn {w wx w' : World} {p : Int} {sv : Value} {k : Ac} {j : Jb} (h : PS w p sv k j wx) (hb : Below wx.heap.size wx w') : PS w p sv k j w' := ⟨h.t.below hb, h.j.below hb, h.r.below hb, bnext h.below hb, Nat.le_trans h.sz hb.size⟩
theorem PS.start (w : World) (p : Int) (sv : Value) (k : Ac) (j : Jb) : PS w p sv k j (((w.alloc (.cells #[.int .i64 p, sv, .int .i64 k.g, .int .i64 k.o, .int .i64 k.n, .int .i64 k.d, .int .i64 k.c, .int .i64 k.t] KT)).alloc (.cells #[.int .i64 j.l, .int .i64 j.c, .int .i64 j.a, .int .i64 j.d] JT)).alloc (.cells #[.int .i64 0, .slice none 0 0, .int .i64 0, .int .i64 0, .int .i64 0, .int .i64 0, .int .i64 0, .int .i64 0] KT)) :=
  ⟨has_old (has_old (has_new w _ _ rfl) _) _, has_old (has_new _ _ _ (by simp)) _, has_new _ _ _ (by simp), (((Below.refl _ _).alloc (Nat.le_refl _) _).alloc (by simp) _).alloc (by simp; omega) _, by simp⟩
theorem PS.at2 {w wx : World} {p : Int} {sv : Value} {k : Ac} {j : Jb} (h : PS w p sv k j wx) (x : Int) : PS w p sv k ⟨j.l, j.c, x, j.d⟩ (wx.setCell ⟨w.heap.size + 1, 2, none⟩ (.int .i64 x)) :=
  ⟨h.t.other _ _ (by show w.heap.size + 1 ≠ w.heap.size; omega), h.j.set2 x, h.r.other _ _ (by show w.heap.size + 1 ≠ w.heap.size + 1 + 1; omega), below_low h.below _ _ (by show w.heap.size ≤ w.heap.size + 1; omega), by simpa [World.setCell] using h.sz⟩
set_option maxHeartbeats 1000000 in
set_option maxRecDepth 100000 in
theorem ppush_state (p : Int) (s : Value) (n : Nat) (f : Nat → Jb) (k : Ac) (j : Jb) (now : Int) (w : World) (h : Jobs w s n f) (hc : k.c ≤ 9223372036854775807) (hv : ¬ okT p n f k) :
    Calls Tryd.prog 22 #[tV p s k, jV j, .int .i64 now] w fun e w' => e = .returned (.tuple #[zT, errV 270]) ∧ Below w.heap.size w w' := by
  have HV := Lib.hid (fun w (h : Jobs w s n f) => pvalid p s n f k w h hc)
  rw [ok_no hv, errV_ne (by decide)] at HV
  have HJ := Lib.hid h
  obtain ⟨q, cap, rfl, _, _⟩ := h
  obtain ⟨kg, ko, kn, kd, kc, kt⟩ := k
  obtain ⟨l, c, a, d⟩ := j
  obtain ⟨WA, hWA⟩ : ∃ WA, WA = ((w.alloc (.cells #[.int .i64 p, .slice q n cap, .int .i64 kg, .int .i64 ko, .int .i64 kn, .int .i64 kd, .int .i64 kc, .int .i64 kt] KT)).alloc (.cells #[.int .i64 l, .int .i64 c, .int .i64 a, .int .i64 d] JT)).alloc (.cells #[.int .i64 0, .slice none 0 0, .int .i64 0, .int .i64 0, .int .i64 0, .int .i64 0, .int .i64 0, .int .i64 0] KT) := ⟨_, rfl⟩
  have HS := Lib.hid (show PS w p (.slice q n cap) ⟨kg, ko, kn, kd, kc, kt⟩ ⟨l, c, a, d⟩ WA from by rw [hWA]; exact PS.start w p (.slice q n cap) ⟨kg, ko, kn, kd, kc, kt⟩ ⟨l, c, a, d⟩)
  have HW := Lib.hid hWA
  clear hWA
  clear hv hc
  go_enter Tryd.func22, Tryd.ntmps22
  go_wp2_with fail
  rw [← HW.out]
  refine (HV.out _ (HJ.out.below HS.out.below)).mono ?_
  rintro e w1 ⟨rfl, hb1⟩
  have H1 := Lib.hid (HS.out.turn hb1)
  obtain ⟨y0, y1, y2, y3, y4, y5, y6, y7⟩ := H1.out.r.cells
  have yf := fun j => has_free H1.out.r j
  clear hb1 HS
  go_wp2_with fail
  refine bodyPost_ret (v := .tuple #[zT, .iface 61 (.int .i64 270)]) (by simp [results, Tryd.results22, go_sem, y0, y1, y2, y3, y4, y5, y6, y7]) rfl ⟨rfl, ?_⟩
  repeat (first | (with_reducible exact H1.out.below) | refine below_low ?_ _ _ (by first | (simp; done) | (simp; omega)))
set_option maxHeartbeats 1000000 in
set_option maxRecDepth 100000 in
theorem ppush_arg (p : Int) (s : Value) (n : Nat) (f : Nat → Jb) (k : Ac) (j : Jb) (now : Int) (w : World) (h : Jobs w s n f) (hv : okT p n f k) (hn : ¬ (0 ≤ now ∧ now ≤ 1073741824)) :
    Calls Tryd.prog 22 #[tV p s k, jV j, .int .i64 now] w fun e w' => e = .returned (.tuple #[zT, errV 1]) ∧ Below w.heap.size w w' := by
  have HV := Lib.hid (fun w (h : Jobs w s n f) => pvalid p s n f k w h (okT_c hv))
  rw [ok_yes hv, errV_0] at HV
  have HJ := Lib.hid h
  obtain ⟨q, cap, rfl, _, _⟩ := h
  obtain ⟨kg, ko, kn, kd, kc, kt⟩ := k
  obtain ⟨l, c, a, d⟩ := j
  obtain ⟨WA, hWA⟩ : ∃ WA, WA = ((w.alloc (.cells #[.int .i64 p, .slice q n cap, .int .i64 kg, .int .i64 ko, .int .i64 kn, .int .i64 kd, .int .i64 kc, .int .i64 kt] KT)).alloc (.cells #[.int .i64 l, .int .i64 c, .int .i64 a, .int .i64 d] JT)).alloc (.cells #[.int .i64 0, .slice none 0 0, .int .i64 0, .int .i64 0, .int .i64 0, .int .i64 0, .int .i64 0, .int .i64 0] KT) := ⟨_, rfl⟩
  have HS := Lib.hid (show PS w p (.slice q n cap) ⟨kg, ko, kn, kd, kc, kt⟩ ⟨l, c, a, d⟩ WA from by rw [hWA]; exact PS.start w p (.slice q n cap) ⟨kg, ko, kn, kd, kc, kt⟩ ⟨l, c, a, d⟩)
  have HW := Lib.hid hWA
  clear hWA
  clear hv
  go_enter Tryd.func22, Tryd.ntmps22
  go_wp2_with fail
  rw [← HW.out]
  refine (HV.out _ (HJ.out.below HS.out.below)).mono ?_
  rintro e w1 ⟨rfl, hb1⟩
  have H1 := Lib.hid (HS.out.turn hb1)
  obtain ⟨y0, y1, y2, y3, y4, y5, y6, y7⟩ := H1.out.r.cells
  have yf := fun j => has_free H1.out.r j
  clear hb1 HS
  go_wp2_with (go_at_call 46; refine (ptime _ _).mono ?_; rintro e w1 ⟨rfl, rfl⟩; rw [decide_eq_false hn])
  refine bodyPost_ret (v := .tuple #[zT, .iface 61 (.int .i64 1)]) (by simp [results, Tryd.results22, go_sem, y0, y1, y2, y3, y4, y5, y6, y7]) rfl ⟨rfl, ?_⟩
  repeat (first | (with_reducible exact H1.out.below) | refine below_low ?_ _ _ (by first | (simp; done) | (simp; omega)))
set_option maxHeartbeats 1000000 in
set_option maxRecDepth 100000 in
theorem ppush_range (p : Int) (s : Value) (n : Nat) (f : Nat → Jb) (k : Ac) (j : Jb) (now : Int) (w : World) (h : Jobs w s n f) (hv : okT p n f k) (hn : 0 ≤ now ∧ now ≤ 1073741824) (hj : ¬ okJ ⟨j.l, j.c, now, j.d⟩) :
    Calls Tryd.prog 22 #[tV p s k, jV j, .int .i64 now] w fun e w' => e = .returned (.tuple #[zT, errV 2]) ∧ Below w.heap.size w w' := by
  have HV := Lib.hid (fun w (h : Jobs w s n f) => pvalid p s n f k w h (okT_c hv))
  rw [ok_yes hv, errV_0] at HV
  have HO := Lib.hid (pjob ⟨j.l, j.c, now, j.d⟩)
  rw [decide_eq_false hj] at HO
  have HJ := Lib.hid h
  obtain ⟨q, cap, rfl, _, _⟩ := h
  obtain ⟨kg, ko, kn, kd, kc, kt⟩ := k
  obtain ⟨l, c, a, d⟩ := j
  obtain ⟨WA, hWA⟩ : ∃ WA, WA = ((w.alloc (.cells #[.int .i64 p, .slice q n cap, .int .i64 kg, .int .i64 ko, .int .i64 kn, .int .i64 kd, .int .i64 kc, .int .i64 kt] KT)).alloc (.cells #[.int .i64 l, .int .i64 c, .int .i64 a, .int .i64 d] JT)).alloc (.cells #[.int .i64 0, .slice none 0 0, .int .i64 0, .int .i64 0, .int .i64 0, .int .i64 0, .int .i64 0, .int .i64 0] KT) := ⟨_, rfl⟩
  have HS := Lib.hid (show PS w p (.slice q n cap) ⟨kg, ko, kn, kd, kc, kt⟩ ⟨l, c, a, d⟩ WA from by rw [hWA]; exact PS.start w p (.slice q n cap) ⟨kg, ko, kn, kd, kc, kt⟩ ⟨l, c, a, d⟩)
  have HW := Lib.hid hWA
  clear hWA
  clear hv hj
  go_enter Tryd.func22, Tryd.ntmps22
  go_wp2_with fail
  rw [← HW.out]
  refine (HV.out _ (HJ.out.below HS.out.below)).mono ?_
  rintro e w1 ⟨rfl, hb1⟩
  have H1 := Lib.hid (HS.out.turn hb1)
  have H2 := Lib.hid (H1.out.at2 now)
  obtain ⟨j0, j1, j2, j3⟩ := H1.out.j.cells
  have jf := fun j => has_free H1.out.j j
  clear hb1 HS
  go_wp2_with (go_at_call 46; refine (ptime _ _).mono ?_; rintro e w1 ⟨rfl, rfl⟩; rw [decide_eq_true hn])
  refine (HO.out _).mono ?_
  rintro e w3 ⟨rfl, hb3⟩
  have H3 := Lib.hid (H2.out.turn hb3)
  obtain ⟨y0, y1, y2, y3, y4, y5, y6, y7⟩ := H3.out.r.cells
  have yf := fun j => has_free H3.out.r j
  clear hb3
  go_wp2_with fail
  refine bodyPost_ret (v := .tuple #[zT, .iface 61 (.int .i64 2)]) (by simp [results, Tryd.results22, go_sem, y0, y1, y2, y3, y4, y5, y6, y7]) rfl ⟨rfl, ?_⟩
  repeat (first | (with_reducible exact H3.out.below) | refine below_low ?_ _ _ (by first | (simp; done) | (simp; omega)))
set_option maxHeartbeats 1000000 in
set_option maxRecDepth 100000 in
theorem ppush_full (p : Int) (s : Value) (n : Nat) (f : Nat → Jb) (k : Ac) (j : Jb) (now : Int) (w : World) (h : Jobs w s n f) (hv : okT p n f k) (hn : 0 ≤ now ∧ now ≤ 1073741824) (hj : okJ ⟨j.l, j.c, now, j.d⟩) (h8 : n = 8) :
    Calls Tryd.prog 22 #[tV p s k, jV j, .int .i64 now] w fun e w' => e = .returned (.tuple #[zT, errV 40]) ∧ Below w.heap.size w w' := by
  have HV := Lib.hid (fun w (h : Jobs w s n f) => pvalid p s n f k w h (okT_c hv))
  rw [ok_yes hv, errV_0] at HV
  have HO := Lib.hid (pjob ⟨j.l, j.c, now, j.d⟩)
  rw [decide_eq_true hj] at HO
  have HJ := Lib.hid h
  have HQ := Lib.hid (fun w (h : Jobs w s n f) => pqueue s n f w h (by omega))
  obtain ⟨q, cap, rfl, _, _⟩ := h
  obtain ⟨kg, ko, kn, kd, kc, kt⟩ := k
  obtain ⟨l, c, a, d⟩ := j
  obtain ⟨WA, hWA⟩ : ∃ WA, WA = ((w.alloc (.cells #[.int .i64 p, .slice q n cap, .int .i64 kg, .int .i64 ko, .int .i64 kn, .int .i64 kd, .int .i64 kc, .int .i64 kt] KT)).alloc (.cells #[.int .i64 l, .int .i64 c, .int .i64 a, .int .i64 d] JT)).alloc (.cells #[.int .i64 0, .slice none 0 0, .int .i64 0, .int .i64 0, .int .i64 0, .int .i64 0, .int .i64 0, .int .i64 0] KT) := ⟨_, rfl⟩
  have HS := Lib.hid (show PS w p (.slice q n cap) ⟨kg, ko, kn, kd, kc, kt⟩ ⟨l, c, a, d⟩ WA from by rw [hWA]; exact PS.start w p (.slice q n cap) ⟨kg, ko, kn, kd, kc, kt⟩ ⟨l, c, a, d⟩)
  have HW := Lib.hid hWA
  clear hWA
  clear hv hj
  replace h8 := Lib.hid h8
  go_enter Tryd.func22, Tryd.ntmps22
  go_wp2_with fail
  rw [← HW.out]
  refine (HV.out _ (HJ.out.below HS.out.below)).mono ?_
  rintro e w1 ⟨rfl, hb1⟩
  have H1 := Lib.hid (HS.out.turn hb1)
  have H2 := Lib.hid (H1.out.at2 now)
  obtain ⟨j0, j1, j2, j3⟩ := H1.out.j.cells
  have jf := fun j => has_free H1.out.j j
  clear hb1 HS
  go_wp2_with (go_at_call 46; refine (ptime _ _).mono ?_; rintro e w1 ⟨rfl, rfl⟩; rw [decide_eq_true hn])
  refine (HO.out _).mono ?_
  rintro e w3 ⟨rfl, hb3⟩
  have H3 := Lib.hid (H2.out.turn hb3)
  obtain ⟨x0, x1, x2, x3, x4, x5, x6, x7⟩ := H3.out.t.cells
  clear hb3 H2 H1
  go_wp2_with fail
  refine (HQ.out _ (HJ.out.below H3.out.below)).mono ?_
  rintro e w4 ⟨b, s4, rfl, hq4⟩
  have H4 := Lib.hid (H3.out.turn hq4.below)
  have HQ4 := Lib.hid (fun x => qpush_full _ _ _ _ _ _ _ hq4 x (by have := h8.out; omega))
  rw [errV_ne (by decide)] at HQ4
  obtain ⟨z0, z1, z2, z3⟩ := H4.out.j.cells
  clear hq4 x0 x1 x2 x3 x4 x5 x6 x7 H3
  go_wp2_with fail
  refine (HQ4.out ⟨l, c, now, d⟩).mono ?_
  rintro e w5 ⟨rfl, hb5⟩
  have H5 := Lib.hid (H4.out.turn hb5)
  obtain ⟨y0, y1, y2, y3, y4, y5, y6, y7⟩ := H5.out.r.cells
  have yf := fun j => has_free H5.out.r j
  clear hb5
  go_wp2_with fail
  refine bodyPost_ret (v := .tuple #[zT, .iface 61 (.int .i64 40)]) (by simp [results, Tryd.results22, go_sem, y0, y1, y2, y3, y4, y5, y6, y7]) rfl ⟨rfl, ?_⟩
  repeat (first | (with_reducible exact H5.out.below) | refine below_low ?_ _ _ (by first | (simp; done) | (simp; omega)))
set_option maxHeartbeats 1000000 in
set_option maxRecDepth 100000 in
theorem ppush_ok (p : Int) (s : Value) (n : Nat) (f : Nat → Jb) (k : Ac) (j : Jb) (now : Int) (w : World) (h : Jobs w s n f) (hv : okT p n f k) (hn : 0 ≤ now ∧ now ≤ 1073741824) (hj : okJ ⟨j.l, j.c, now, j.d⟩) (h8 : n < 8) :
    Calls Tryd.prog 22 #[tV p s k, jV j, .int .i64 now] w fun e w' => ∃ x, e = .returned (.tuple #[x, errV 0]) ∧ TaskO w p (n + 1) (upd f n ⟨j.l, j.c, now, j.d⟩) k x w' := by
  have HV := Lib.hid (fun w (h : Jobs w s n f) => pvalid p s n f k w h (okT_c hv))
  rw [ok_yes hv, errV_0] at HV
  have HO := Lib.hid (pjob ⟨j.l, j.c, now, j.d⟩)
  rw [decide_eq_true hj] at HO
  have HJ := Lib.hid h
  have HQ := Lib.hid (fun w (h : Jobs w s n f) => pqueue s n f w h (by omega))
  obtain ⟨q, cap, rfl, _, _⟩ := h
  obtain ⟨kg, ko, kn, kd, kc, kt⟩ := k
  obtain ⟨l, c, a, d⟩ := j
  obtain ⟨WA, hWA⟩ : ∃ WA, WA = ((w.alloc (.cells #[.int .i64 p, .slice q n cap, .int .i64 kg, .int .i64 ko, .int .i64 kn, .int .i64 kd, .int .i64 kc, .int .i64 kt] KT)).alloc (.cells #[.int .i64 l, .int .i64 c, .int .i64 a, .int .i64 d] JT)).alloc (.cells #[.int .i64 0, .slice none 0 0, .int .i64 0, .int .i64 0, .int .i64 0, .int .i64 0, .int .i64 0, .int .i64 0] KT) := ⟨_, rfl⟩
  have HS := Lib.hid (show PS w p (.slice q n cap) ⟨kg, ko, kn, kd, kc, kt⟩ ⟨l, c, a, d⟩ WA from by rw [hWA]; exact PS.start w p (.slice q n cap) ⟨kg, ko, kn, kd, kc, kt⟩ ⟨l, c, a, d⟩)
  have HW := Lib.hid hWA
  clear hWA
  clear hv hj
  go_enter Tryd.func22, Tryd.ntmps22
  go_wp2_with fail
  rw [← HW.out]
  refine (HV.out _ (HJ.out.below HS.out.below)).mono ?_
  rintro e w1 ⟨rfl, hb1⟩
  have H1 := Lib.hid (HS.out.turn hb1)
  have H2 := Lib.hid (H1.out.at2 now)
  obtain ⟨j0, j1, j2, j3⟩ := H1.out.j.cells
  have jf := fun j => has_free H1.out.j j
  clear hb1 HS
  go_wp2_with (go_at_call 46; refine (ptime _ _).mono ?_; rintro e w1 ⟨rfl, rfl⟩; rw [decide_eq_true hn])
  refine (HO.out _).mono ?_
  rintro e w3 ⟨rfl, hb3⟩
  have H3 := Lib.hid (H2.out.turn hb3)
  obtain ⟨x0, x1, x2, x3, x4, x5, x6, x7⟩ := H3.out.t.cells
  clear hb3 H2 H1
  go_wp2_with fail
  refine (HQ.out _ (HJ.out.below H3.out.below)).mono ?_
  rintro e w4 ⟨b, s4, rfl, hq4⟩
  have H4 := Lib.hid (H3.out.turn hq4.below)
  have HQ4 := Lib.hid (fun x => qpush _ _ _ _ _ _ _ hq4 x h8 (by omega))
  obtain ⟨z0, z1, z2, z3⟩ := H4.out.j.cells
  have H3' := Lib.hid H3.out
  clear hq4 x0 x1 x2 x3 x4 x5 x6 x7 H3
  go_wp2_with fail
  refine (HQ4.out ⟨l, c, now, d⟩).mono ?_
  rintro e w5 ⟨rfl, s5, hq5⟩
  have H5 := Lib.hid (H3'.out.turn hq5.below)
  have HL5 := Lib.hid (qlist _ _ _ _ _ _ _ hq5)
  obtain ⟨x0, x1, x2, x3, x4, x5, x6, x7⟩ := H5.out.t.cells
  clear hq5
  go_wp2_with fail
  refine HL5.out.mono ?_
  rintro e w6 ⟨p6, c6, rfl, ho6, hb6⟩
  have H6 := Lib.hid (H5.out.turn hb6)
  have HO6 := Lib.hid ho6
  obtain ⟨y0, y1, y2, y3, y4, y5, y6, y7⟩ := H6.out.r.cells
  have yf := fun j => has_free H6.out.r j
  clear x0 x1 x2 x3 x4 x5 x6 x7
  obtain ⟨x0, x1, x2, x3, x4, x5, x6, x7⟩ := H6.out.t.cells
  have xf := fun j => has_free H6.out.t j
  have hs5 := H5.out.sz
  clear hb6 ho6
  go_wp2_with fail
  refine bodyPost_ret (v := .tuple #[tV p (.slice p6 (n + 1) c6) ⟨kg, ko, kn, kd, kc, kt⟩, .nilIface]) (by simp [results, Tryd.results22, go_sem, y0, y1, y2, y3, y4, y5, y6, y7]) rfl ⟨_, rfl, p6, c6, rfl, ?_, ?_⟩
  · refine own_base2 (B := w5.heap.size) ?_ (by omega)
    repeat (first | (with_reducible exact HO6.out) | refine own_low ?_ _ _ (by first | (simp; done) | (simp; omega)))
  · repeat (first | (with_reducible exact H6.out.below) | refine below_low ?_ _ _ (by first | (simp; done) | (simp; omega)))
/-- Push, every way. -/
theorem ppush_any (p : Int) (s : Value) (n : Nat) (f : Nat → Jb) (k : Ac) (j : Jb) (now : Int) (w : World) (h : Jobs w s n f) (hc : k.c ≤ 9223372036854775807) :
    Calls Tryd.prog 22 #[tV p s k, jV j, .int .i64 now] w fun e w' => ∃ x, e = .returned (.tuple #[x, errV (pushE p n f k j now)]) ∧
      TaskO w (if pushE p n f k j now = 0 then p else 0) (if pushE p n f k j now = 0 then n + 1 else 0) (upd f n ⟨j.l, j.c, now, j.d⟩) (if pushE p n f k j now = 0 then k else kZ) x w' := by
  by_cases hv : okT p n f k
  · by_cases hn : 0 ≤ now ∧ now ≤ 1073741824
    · by_cases hj : okJ ⟨j.l, j.c, now, j.d⟩
      · by_cases h8 : 8 ≤ n
        · have hE : pushE p n f k j now = 40 := by unfold pushE; rw [if_neg (fun h => h hv), if_neg (fun h => h hn), if_neg (fun h => h hj), if_pos h8]
          rw [hE]
          exact (ppush_full p s n f k j now w h hv hn hj (by have := hv.2.1; omega)).mono fun e w' ⟨he, hb⟩ => ⟨_, he, zero_task _ hb⟩
        · have hE : pushE p n f k j now = 0 := by unfold pushE; rw [if_neg (fun h => h hv), if_neg (fun h => h hn), if_neg (fun h => h hj), if_neg h8]
          rw [hE]
          exact (ppush_ok p s n f k j now w h hv hn hj (by omega)).mono fun e w' ⟨x, he, hb⟩ => ⟨x, he, hb⟩
      · have hE : pushE p n f k j now = 2 := by unfold pushE; rw [if_neg (fun h => h hv), if_neg (fun h => h hn), if_pos hj]
        rw [hE]
        exact (ppush_range p s n f k j now w h hv hn hj).mono fun e w' ⟨he, hb⟩ => ⟨_, he, zero_task _ hb⟩
    · have hE : pushE p n f k j now = 1 := by unfold pushE; rw [if_neg (fun h => h hv), if_pos hn]
      rw [hE]
      exact (ppush_arg p s n f k j now w h hv hn).mono fun e w' ⟨he, hb⟩ => ⟨_, he, zero_task _ hb⟩
  · have hE : pushE p n f k j now = 270 := if_pos hv
    rw [hE]
    exact (ppush_state p s n f k j now w h hc hv).mono fun e w' ⟨he, hb⟩ => ⟨_, he, zero_task _ hb⟩
end Go.Proofs.YtpfhebfkhailfaaDoor
