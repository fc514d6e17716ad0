/- Texts of stages 3, 4, 12, 13 and 14 that stand together: UQueue UPush UGive URun QPick UPick ZTks; no condition but those that each row names. -/
import Derived.Test.YtedgchafligndaaGreatJB3
import Derived.Test.YtedgchafligndaaGreatJB4
import Derived.Deep.Quiet
import Derived.Deep.QuietTactic
import Derived.Maps.AppendAt
/- The program's task: jobs as a queue; no condition but those that each row names. -/
namespace Go.Proofs.YtedgchafligndaaGreat
open Go.RowKit Go.Shelf Tsk

theorem upd_id (f : Nat → Jb) (i : Nat) : upd f i (f i) = f := by
  funext j
  by_cases e : j = i
  · rw [e, upd_same]
  · rw [upd_ne _ e]
set_option maxHeartbeats 1000000 in
theorem pqueue (s : Value) (n : Nat) (f : Nat → Jb) (w : World) (h : Jobs w s n f) (hn8 : n ≤ 8) : Calls Tryz.prog 76 #[s] w fun e w' => ∃ b s', e = .returned (.pointer (some ⟨b, 0, none⟩)) ∧ QJ w b s' n f n w' := by
  have HJ := Lib.hid h
  obtain ⟨q, cap, rfl, hn, _⟩ := h
  go_enter Tryz.func76, Tryz.ntmps76
  go_wp2_with fail
  refine (qnew w).mono ?_
  rintro e w2 ⟨rfl, hq⟩
  have HQ := Lib.hid (hq.congr (g := f) (fun i hi => by omega))
  clear hq
  go_wp2_with fail
  go_loopw [13] (fun iv wr => ∃ i : Nat, iv = .int .i64 i ∧ i ≤ n ∧ ∃ s', Hid (QJ w w.heap.size s' i f i wr)) (fun iv _ => n - (intOf iv).toNat)
  case atStart => exact ⟨0, rfl, Nat.zero_le _, _, HQ⟩
  case round =>
    obtain ⟨i, rfl, hi, s', HQr⟩ := hrel
    by_cases hin : i < n
    · have hin' : (i : Int) < (n : Int) := by omega
      obtain ⟨q', cap', e, _, hcl⟩ := HJ.out.below HQr.out.below
      cases e
      obtain ⟨b, off, rfl, d0, d1, d2, d3⟩ := hcl i hin
      clear hcl
      have HP := Lib.hid (fun w3 (hb : Below wr.heap.size wr w3) => (qpush w w3 w.heap.size i s' f i (HQr.out.turn hb) (f i) (by omega) (by omega)).mono (R' := fun e w' => e = .returned .nilIface ∧ ∃ s'', QJ w w.heap.size s'' (i + 1) f ((i : Int) + 1) w') (fun e w' ⟨he, s'', hq⟩ => ⟨he, s'', hq.congr fun j _ => by rw [upd_id]⟩))
      generalize f i = jb at *
      obtain ⟨jl, jc, ja, jd⟩ := jb
      have HBa := Lib.hid ((Below.refl wr.heap.size wr).alloc (Nat.le_refl _) (.cells #[.int .i64 jl, .int .i64 jc, .int .i64 ja, .int .i64 jd] JT))
      go_wp2_with fail
      refine (HP.out _ HBa.out).mono ?_
      rintro e w3 ⟨rfl, s'', hq⟩
      have HQ3 := Lib.hid hq
      clear hq
      go_wp2_with fail
      go_roundw
      case rel => exact ⟨i + 1, by go_num, by omega, s'', HQ3⟩
      case measure => simp [intOf]; omega
    · have hg3 : decide (i < n) = false := decide_eq_false hin
      obtain rfl : i = n := by omega
      clear hin
      go_wp2_with fail
      go_ret
      exact ⟨_, _, rfl, HQr.out⟩
end Go.Proofs.YtedgchafligndaaGreat
/- The program's task: Push; no condition but those that each row names. -/
namespace Go.Proofs.YtedgchafligndaaGreat
open Go.RowKit Go.Shelf Tsk

theorem okT_c {p : Int} {n : Nat} {f : Nat → Jb} {k : Ac} (hv : okT p n f k) : k.c ≤ 9223372036854775807 := by
  have h1 := hv.2.2.2.2.2.1
  have h2 := hv.2.2.2.1.1.2
  have h3 := hv.2.2.2.2.1.1
  omega
theorem arrJ2 (u0 u1 u2 u3 v : Value) : #[u0, u1, u2, u3].setIfInBounds 2 v = #[u0, u1, v, u3] := by rw [← Array.toList_inj, Array.toList_setIfInBounds]; rfl
theorem HasJ.set2 {W : World} {g : Nat} {j : Jb} (h : HasJ W g j) (x : Int) : HasJ (W.setCell ⟨g, 2, none⟩ (.int .i64 x)) g ⟨j.l, j.c, x, j.d⟩ := by have a := has_set h 2 (.int .i64 x); rwa [arrJ2] at a
/-- The blocks that the program's Push works on. -/
structure PS (w : World) (p : Int) (sv : Value) (k : Ac) (j : Jb) (wx : World) : Prop where
  t : HasT wx w.heap.size p sv k
  j : HasJ wx (w.heap.size + 1) j
  r : HasT wx (w.heap.size + 1 + 1) 0 (.slice none 0 0) kZ
  below : Below w.heap.size w wx
  sz : w.heap.size + 3 ≤ wx.heap.size
theorem PS.turn {w wx w' : World} {p : Int} {sv : Value} {k : Ac} {j : Jb} (h : PS w p sv k j wx) (hb : Below wx.heap.size wx w') : PS w p sv k j w' := ⟨h.t.below hb, h.j.below hb, h.r.below hb, bnext h.below hb, Nat.le_trans h.sz hb.size⟩
theorem PS.start (w : World) (p : Int) (sv : Value) (k : Ac) (j : Jb) : PS w p sv k j (((w.alloc (.cells #[.int .i64 p, sv, .int .i64 k.g, .int .i64 k.o, .int .i64 k.n, .int .i64 k.d, .int .i64 k.c, .int .i64 k.t] KT)).alloc (.cells #[.int .i64 j.l, .int .i64 j.c, .int .i64 j.a, .int .i64 j.d] JT)).alloc (.cells #[.int .i64 0, .slice none 0 0, .int .i64 0, .int .i64 0, .int .i64 0, .int .i64 0, .int .i64 0, .int .i64 0] KT)) :=
  ⟨has_old (has_old (has_new w _ _ rfl) _) _, has_old (has_new _ _ _ (by simp)) _, has_new _ _ _ (by simp), (((Below.refl _ _).alloc (Nat.le_refl _) _).alloc (by simp) _).alloc (by simp; omega) _, by simp⟩
theorem PS.at2 {w wx : World} {p : Int} {sv : Value} {k : Ac} {j : Jb} (h : PS w p sv k j wx) (x : Int) : PS w p sv k ⟨j.l, j.c, x, j.d⟩ (wx.setCell ⟨w.heap.size + 1, 2, none⟩ (.int .i64 x)) :=
  ⟨h.t.other _ _ (by show w.heap.size + 1 ≠ w.heap.size; omega), h.j.set2 x, h.r.other _ _ (by show w.heap.size + 1 ≠ w.heap.size + 1 + 1; omega), below_low h.below _ _ (by show w.heap.size ≤ w.heap.size + 1; omega), by simpa [World.setCell] using h.sz⟩
set_option maxHeartbeats 1000000 in
set_option maxRecDepth 100000 in
theorem ppush_state (p : Int) (s : Value) (n : Nat) (f : Nat → Jb) (k : Ac) (j : Jb) (now : Int) (w : World) (h : Jobs w s n f) (hc : k.c ≤ 9223372036854775807) (hv : ¬ okT p n f k) :
    Calls Tryz.prog 60 #[tV p s k, jV j, .int .i64 now] w fun e w' => e = .returned (.tuple #[zT, errV 270]) ∧ Below w.heap.size w w' := by
  have HV := Lib.hid (fun w (h : Jobs w s n f) => pvalid p s n f k w h hc)
  rw [ok_no hv, errV_ne (by decide)] at HV
  have HJ := Lib.hid h
  obtain ⟨q, cap, rfl, _, _⟩ := h
  obtain ⟨kg, ko, kn, kd, kc, kt⟩ := k
  obtain ⟨l, c, a, d⟩ := j
  obtain ⟨WA, hWA⟩ : ∃ WA, WA = ((w.alloc (.cells #[.int .i64 p, .slice q n cap, .int .i64 kg, .int .i64 ko, .int .i64 kn, .int .i64 kd, .int .i64 kc, .int .i64 kt] KT)).alloc (.cells #[.int .i64 l, .int .i64 c, .int .i64 a, .int .i64 d] JT)).alloc (.cells #[.int .i64 0, .slice none 0 0, .int .i64 0, .int .i64 0, .int .i64 0, .int .i64 0, .int .i64 0, .int .i64 0] KT) := ⟨_, rfl⟩
  have HS := Lib.hid (show PS w p (.slice q n cap) ⟨kg, ko, kn, kd, kc, kt⟩ ⟨l, c, a, d⟩ WA from by rw [hWA]; exact PS.start w p (.slice q n cap) ⟨kg, ko, kn, kd, kc, kt⟩ ⟨l, c, a, d⟩)
  have HW := Lib.hid hWA
  clear hWA
  clear hv hc
  go_enter Tryz.func60, Tryz.ntmps60
  go_wp2_with fail
  rw [← HW.out]
  refine (HV.out _ (HJ.out.below HS.out.below)).mono ?_
  rintro e w1 ⟨rfl, hb1⟩
  have H1 := Lib.hid (HS.out.turn hb1)
  obtain ⟨y0, y1, y2, y3, y4, y5, y6, y7⟩ := H1.out.r.cells
  have yf := fun j => has_free H1.out.r j
  clear hb1 HS
  go_wp2_with fail
  refine bodyPost_ret (v := .tuple #[zT, .iface 65 (.int .i64 270)]) (by simp [results, Tryz.results60, go_sem, y0, y1, y2, y3, y4, y5, y6, y7]) rfl ⟨rfl, ?_⟩
  repeat (first | (with_reducible exact H1.out.below) | refine below_low ?_ _ _ (by first | (simp; done) | (simp; omega)))
set_option maxHeartbeats 1000000 in
set_option maxRecDepth 100000 in
theorem ppush_arg (p : Int) (s : Value) (n : Nat) (f : Nat → Jb) (k : Ac) (j : Jb) (now : Int) (w : World) (h : Jobs w s n f) (hv : okT p n f k) (hn : ¬ (0 ≤ now ∧ now ≤ 1073741824)) :
    Calls Tryz.prog 60 #[tV p s k, jV j, .int .i64 now] w fun e w' => e = .returned (.tuple #[zT, errV 1]) ∧ Below w.heap.size w w' := by
  have HV := Lib.hid (fun w (h : Jobs w s n f) => pvalid p s n f k w h (okT_c hv))
  rw [ok_yes hv, errV_0] at HV
  have HJ := Lib.hid h
  obtain ⟨q, cap, rfl, _, _⟩ := h
  obtain ⟨kg, ko, kn, kd, kc, kt⟩ := k
  obtain ⟨l, c, a, d⟩ := j
  obtain ⟨WA, hWA⟩ : ∃ WA, WA = ((w.alloc (.cells #[.int .i64 p, .slice q n cap, .int .i64 kg, .int .i64 ko, .int .i64 kn, .int .i64 kd, .int .i64 kc, .int .i64 kt] KT)).alloc (.cells #[.int .i64 l, .int .i64 c, .int .i64 a, .int .i64 d] JT)).alloc (.cells #[.int .i64 0, .slice none 0 0, .int .i64 0, .int .i64 0, .int .i64 0, .int .i64 0, .int .i64 0, .int .i64 0] KT) := ⟨_, rfl⟩
  have HS := Lib.hid (show PS w p (.slice q n cap) ⟨kg, ko, kn, kd, kc, kt⟩ ⟨l, c, a, d⟩ WA from by rw [hWA]; exact PS.start w p (.slice q n cap) ⟨kg, ko, kn, kd, kc, kt⟩ ⟨l, c, a, d⟩)
  have HW := Lib.hid hWA
  clear hWA
  clear hv
  go_enter Tryz.func60, Tryz.ntmps60
  go_wp2_with fail
  rw [← HW.out]
  refine (HV.out _ (HJ.out.below HS.out.below)).mono ?_
  rintro e w1 ⟨rfl, hb1⟩
  have H1 := Lib.hid (HS.out.turn hb1)
  obtain ⟨y0, y1, y2, y3, y4, y5, y6, y7⟩ := H1.out.r.cells
  have yf := fun j => has_free H1.out.r j
  clear hb1 HS
  go_wp2_with (go_at_call 75; refine (ptime _ _).mono ?_; rintro e w1 ⟨rfl, rfl⟩; rw [decide_eq_false hn])
  refine bodyPost_ret (v := .tuple #[zT, .iface 65 (.int .i64 1)]) (by simp [results, Tryz.results60, go_sem, y0, y1, y2, y3, y4, y5, y6, y7]) rfl ⟨rfl, ?_⟩
  repeat (first | (with_reducible exact H1.out.below) | refine below_low ?_ _ _ (by first | (simp; done) | (simp; omega)))
set_option maxHeartbeats 1000000 in
set_option maxRecDepth 100000 in
theorem ppush_range (p : Int) (s : Value) (n : Nat) (f : Nat → Jb) (k : Ac) (j : Jb) (now : Int) (w : World) (h : Jobs w s n f) (hv : okT p n f k) (hn : 0 ≤ now ∧ now ≤ 1073741824) (hj : ¬ okJ ⟨j.l, j.c, now, j.d⟩) :
    Calls Tryz.prog 60 #[tV p s k, jV j, .int .i64 now] w fun e w' => e = .returned (.tuple #[zT, errV 2]) ∧ Below w.heap.size w w' := by
  have HV := Lib.hid (fun w (h : Jobs w s n f) => pvalid p s n f k w h (okT_c hv))
  rw [ok_yes hv, errV_0] at HV
  have HO := Lib.hid (pjob ⟨j.l, j.c, now, j.d⟩)
  rw [decide_eq_false hj] at HO
  have HJ := Lib.hid h
  obtain ⟨q, cap, rfl, _, _⟩ := h
  obtain ⟨kg, ko, kn, kd, kc, kt⟩ := k
  obtain ⟨l, c, a, d⟩ := j
  obtain ⟨WA, hWA⟩ : ∃ WA, WA = ((w.alloc (.cells #[.int .i64 p, .slice q n cap, .int .i64 kg, .int .i64 ko, .int .i64 kn, .int .i64 kd, .int .i64 kc, .int .i64 kt] KT)).alloc (.cells #[.int .i64 l, .int .i64 c, .int .i64 a, .int .i64 d] JT)).alloc (.cells #[.int .i64 0, .slice none 0 0, .int .i64 0, .int .i64 0, .int .i64 0, .int .i64 0, .int .i64 0, .int .i64 0] KT) := ⟨_, rfl⟩
  have HS := Lib.hid (show PS w p (.slice q n cap) ⟨kg, ko, kn, kd, kc, kt⟩ ⟨l, c, a, d⟩ WA from by rw [hWA]; exact PS.start w p (.slice q n cap) ⟨kg, ko, kn, kd, kc, kt⟩ ⟨l, c, a, d⟩)
  have HW := Lib.hid hWA
  clear hWA
  clear hv hj
  go_enter Tryz.func60, Tryz.ntmps60
  go_wp2_with fail
  rw [← HW.out]
  refine (HV.out _ (HJ.out.below HS.out.below)).mono ?_
  rintro e w1 ⟨rfl, hb1⟩
  have H1 := Lib.hid (HS.out.turn hb1)
  have H2 := Lib.hid (H1.out.at2 now)
  obtain ⟨j0, j1, j2, j3⟩ := H1.out.j.cells
  have jf := fun j => has_free H1.out.j j
  clear hb1 HS
  go_wp2_with (go_at_call 75; refine (ptime _ _).mono ?_; rintro e w1 ⟨rfl, rfl⟩; rw [decide_eq_true hn])
  refine (HO.out _).mono ?_
  rintro e w3 ⟨rfl, hb3⟩
  have H3 := Lib.hid (H2.out.turn hb3)
  obtain ⟨y0, y1, y2, y3, y4, y5, y6, y7⟩ := H3.out.r.cells
  have yf := fun j => has_free H3.out.r j
  clear hb3
  go_wp2_with fail
  refine bodyPost_ret (v := .tuple #[zT, .iface 65 (.int .i64 2)]) (by simp [results, Tryz.results60, go_sem, y0, y1, y2, y3, y4, y5, y6, y7]) rfl ⟨rfl, ?_⟩
  repeat (first | (with_reducible exact H3.out.below) | refine below_low ?_ _ _ (by first | (simp; done) | (simp; omega)))
set_option maxHeartbeats 1000000 in
set_option maxRecDepth 100000 in
theorem ppush_full (p : Int) (s : Value) (n : Nat) (f : Nat → Jb) (k : Ac) (j : Jb) (now : Int) (w : World) (h : Jobs w s n f) (hv : okT p n f k) (hn : 0 ≤ now ∧ now ≤ 1073741824) (hj : okJ ⟨j.l, j.c, now, j.d⟩) (h8 : n = 8) :
    Calls Tryz.prog 60 #[tV p s k, jV j, .int .i64 now] w fun e w' => e = .returned (.tuple #[zT, errV 40]) ∧ Below w.heap.size w w' := by
  have HV := Lib.hid (fun w (h : Jobs w s n f) => pvalid p s n f k w h (okT_c hv))
  rw [ok_yes hv, errV_0] at HV
  have HO := Lib.hid (pjob ⟨j.l, j.c, now, j.d⟩)
  rw [decide_eq_true hj] at HO
  have HJ := Lib.hid h
  have HQ := Lib.hid (fun w (h : Jobs w s n f) => pqueue s n f w h (by omega))
  obtain ⟨q, cap, rfl, _, _⟩ := h
  obtain ⟨kg, ko, kn, kd, kc, kt⟩ := k
  obtain ⟨l, c, a, d⟩ := j
  obtain ⟨WA, hWA⟩ : ∃ WA, WA = ((w.alloc (.cells #[.int .i64 p, .slice q n cap, .int .i64 kg, .int .i64 ko, .int .i64 kn, .int .i64 kd, .int .i64 kc, .int .i64 kt] KT)).alloc (.cells #[.int .i64 l, .int .i64 c, .int .i64 a, .int .i64 d] JT)).alloc (.cells #[.int .i64 0, .slice none 0 0, .int .i64 0, .int .i64 0, .int .i64 0, .int .i64 0, .int .i64 0, .int .i64 0] KT) := ⟨_, rfl⟩
  have HS := Lib.hid (show PS w p (.slice q n cap) ⟨kg, ko, kn, kd, kc, kt⟩ ⟨l, c, a, d⟩ WA from by rw [hWA]; exact PS.start w p (.slice q n cap) ⟨kg, ko, kn, kd, kc, kt⟩ ⟨l, c, a, d⟩)
  have HW := Lib.hid hWA
  clear hWA
  clear hv hj
  replace h8 := Lib.hid h8
  go_enter Tryz.func60, Tryz.ntmps60
  go_wp2_with fail
  rw [← HW.out]
  refine (HV.out _ (HJ.out.below HS.out.below)).mono ?_
  rintro e w1 ⟨rfl, hb1⟩
  have H1 := Lib.hid (HS.out.turn hb1)
  have H2 := Lib.hid (H1.out.at2 now)
  obtain ⟨j0, j1, j2, j3⟩ := H1.out.j.cells
  have jf := fun j => has_free H1.out.j j
  clear hb1 HS
  go_wp2_with (go_at_call 75; refine (ptime _ _).mono ?_; rintro e w1 ⟨rfl, rfl⟩; rw [decide_eq_true hn])
  refine (HO.out _).mono ?_
  rintro e w3 ⟨rfl, hb3⟩
  have H3 := Lib.hid (H2.out.turn hb3)
  obtain ⟨x0, x1, x2, x3, x4, x5, x6, x7⟩ := H3.out.t.cells
  clear hb3 H2 H1
  go_wp2_with fail
  refine (HQ.out _ (HJ.out.below H3.out.below)).mono ?_
  rintro e w4 ⟨b, s4, rfl, hq4⟩
  have H4 := Lib.hid (H3.out.turn hq4.below)
  have HQ4 := Lib.hid (fun x => qpush_full _ _ _ _ _ _ _ hq4 x (by have := h8.out; omega))
  rw [errV_ne (by decide)] at HQ4
  obtain ⟨z0, z1, z2, z3⟩ := H4.out.j.cells
  clear hq4 x0 x1 x2 x3 x4 x5 x6 x7 H3
  go_wp2_with fail
  refine (HQ4.out ⟨l, c, now, d⟩).mono ?_
  rintro e w5 ⟨rfl, hb5⟩
  have H5 := Lib.hid (H4.out.turn hb5)
  obtain ⟨y0, y1, y2, y3, y4, y5, y6, y7⟩ := H5.out.r.cells
  have yf := fun j => has_free H5.out.r j
  clear hb5
  go_wp2_with fail
  refine bodyPost_ret (v := .tuple #[zT, .iface 65 (.int .i64 40)]) (by simp [results, Tryz.results60, go_sem, y0, y1, y2, y3, y4, y5, y6, y7]) rfl ⟨rfl, ?_⟩
  repeat (first | (with_reducible exact H5.out.below) | refine below_low ?_ _ _ (by first | (simp; done) | (simp; omega)))
set_option maxHeartbeats 1000000 in
set_option maxRecDepth 100000 in
theorem ppush_ok (p : Int) (s : Value) (n : Nat) (f : Nat → Jb) (k : Ac) (j : Jb) (now : Int) (w : World) (h : Jobs w s n f) (hv : okT p n f k) (hn : 0 ≤ now ∧ now ≤ 1073741824) (hj : okJ ⟨j.l, j.c, now, j.d⟩) (h8 : n < 8) :
    Calls Tryz.prog 60 #[tV p s k, jV j, .int .i64 now] w fun e w' => ∃ x, e = .returned (.tuple #[x, errV 0]) ∧ TaskO w p (n + 1) (upd f n ⟨j.l, j.c, now, j.d⟩) k x w' := by
  have HV := Lib.hid (fun w (h : Jobs w s n f) => pvalid p s n f k w h (okT_c hv))
  rw [ok_yes hv, errV_0] at HV
  have HO := Lib.hid (pjob ⟨j.l, j.c, now, j.d⟩)
  rw [decide_eq_true hj] at HO
  have HJ := Lib.hid h
  have HQ := Lib.hid (fun w (h : Jobs w s n f) => pqueue s n f w h (by omega))
  obtain ⟨q, cap, rfl, _, _⟩ := h
  obtain ⟨kg, ko, kn, kd, kc, kt⟩ := k
  obtain ⟨l, c, a, d⟩ := j
  obtain ⟨WA, hWA⟩ : ∃ WA, WA = ((w.alloc (.cells #[.int .i64 p, .slice q n cap, .int .i64 kg, .int .i64 ko, .int .i64 kn, .int .i64 kd, .int .i64 kc, .int .i64 kt] KT)).alloc (.cells #[.int .i64 l, .int .i64 c, .int .i64 a, .int .i64 d] JT)).alloc (.cells #[.int .i64 0, .slice none 0 0, .int .i64 0, .int .i64 0, .int .i64 0, .int .i64 0, .int .i64 0, .int .i64 0] KT) := ⟨_, rfl⟩
  have HS := Lib.hid (show PS w p (.slice q n cap) ⟨kg, ko, kn, kd, kc, kt⟩ ⟨l, c, a, d⟩ WA from by rw [hWA]; exact PS.start w p (.slice q n cap) ⟨kg, ko, kn, kd, kc, kt⟩ ⟨l, c, a, d⟩)
  have HW := Lib.hid hWA
  clear hWA
  clear hv hj
  go_enter Tryz.func60, Tryz.ntmps60
  go_wp2_with fail
  rw [← HW.out]
  refine (HV.out _ (HJ.out.below HS.out.below)).mono ?_
  rintro e w1 ⟨rfl, hb1⟩
  have H1 := Lib.hid (HS.out.turn hb1)
  have H2 := Lib.hid (H1.out.at2 now)
  obtain ⟨j0, j1, j2, j3⟩ := H1.out.j.cells
  have jf := fun j => has_free H1.out.j j
  clear hb1 HS
  go_wp2_with (go_at_call 75; refine (ptime _ _).mono ?_; rintro e w1 ⟨rfl, rfl⟩; rw [decide_eq_true hn])
  refine (HO.out _).mono ?_
  rintro e w3 ⟨rfl, hb3⟩
  have H3 := Lib.hid (H2.out.turn hb3)
  obtain ⟨x0, x1, x2, x3, x4, x5, x6, x7⟩ := H3.out.t.cells
  clear hb3 H2 H1
  go_wp2_with fail
  refine (HQ.out _ (HJ.out.below H3.out.below)).mono ?_
  rintro e w4 ⟨b, s4, rfl, hq4⟩
  have H4 := Lib.hid (H3.out.turn hq4.below)
  have HQ4 := Lib.hid (fun x => qpush _ _ _ _ _ _ _ hq4 x h8 (by omega))
  obtain ⟨z0, z1, z2, z3⟩ := H4.out.j.cells
  have H3' := Lib.hid H3.out
  clear hq4 x0 x1 x2 x3 x4 x5 x6 x7 H3
  go_wp2_with fail
  refine (HQ4.out ⟨l, c, now, d⟩).mono ?_
  rintro e w5 ⟨rfl, s5, hq5⟩
  have H5 := Lib.hid (H3'.out.turn hq5.below)
  have HL5 := Lib.hid (qlist _ _ _ _ _ _ _ hq5)
  obtain ⟨x0, x1, x2, x3, x4, x5, x6, x7⟩ := H5.out.t.cells
  clear hq5
  go_wp2_with fail
  refine HL5.out.mono ?_
  rintro e w6 ⟨p6, c6, rfl, ho6, hb6⟩
  have H6 := Lib.hid (H5.out.turn hb6)
  have HO6 := Lib.hid ho6
  obtain ⟨y0, y1, y2, y3, y4, y5, y6, y7⟩ := H6.out.r.cells
  have yf := fun j => has_free H6.out.r j
  clear x0 x1 x2 x3 x4 x5 x6 x7
  obtain ⟨x0, x1, x2, x3, x4, x5, x6, x7⟩ := H6.out.t.cells
  have xf := fun j => has_free H6.out.t j
  have hs5 := H5.out.sz
  clear hb6 ho6
  go_wp2_with fail
  refine bodyPost_ret (v := .tuple #[tV p (.slice p6 (n + 1) c6) ⟨kg, ko, kn, kd, kc, kt⟩, .nilIface]) (by simp [results, Tryz.results60, go_sem, y0, y1, y2, y3, y4, y5, y6, y7]) rfl ⟨_, rfl, p6, c6, rfl, ?_, ?_⟩
  · refine own_base2 (B := w5.heap.size) ?_ (by omega)
    repeat (first | (with_reducible exact HO6.out) | refine own_low ?_ _ _ (by first | (simp; done) | (simp; omega)))
  · repeat (first | (with_reducible exact H6.out.below) | refine below_low ?_ _ _ (by first | (simp; done) | (simp; omega)))
/-- Push, every way. -/
theorem ppush_any (p : Int) (s : Value) (n : Nat) (f : Nat → Jb) (k : Ac) (j : Jb) (now : Int) (w : World) (h : Jobs w s n f) (hc : k.c ≤ 9223372036854775807) :
    Calls Tryz.prog 60 #[tV p s k, jV j, .int .i64 now] w fun e w' => ∃ x, e = .returned (.tuple #[x, errV (pushE p n f k j now)]) ∧
      TaskO w (if pushE p n f k j now = 0 then p else 0) (if pushE p n f k j now = 0 then n + 1 else 0) (upd f n ⟨j.l, j.c, now, j.d⟩) (if pushE p n f k j now = 0 then k else kZ) x w' := by
  by_cases hv : okT p n f k
  · by_cases hn : 0 ≤ now ∧ now ≤ 1073741824
    · by_cases hj : okJ ⟨j.l, j.c, now, j.d⟩
      · by_cases h8 : 8 ≤ n
        · have hE : pushE p n f k j now = 40 := by unfold pushE; rw [if_neg (fun h => h hv), if_neg (fun h => h hn), if_neg (fun h => h hj), if_pos h8]
          rw [hE]
          exact (ppush_full p s n f k j now w h hv hn hj (by have := hv.2.1; omega)).mono fun e w' ⟨he, hb⟩ => ⟨_, he, zero_task _ hb⟩
        · have hE : pushE p n f k j now = 0 := by unfold pushE; rw [if_neg (fun h => h hv), if_neg (fun h => h hn), if_neg (fun h => h hj), if_neg h8]
          rw [hE]
          exact (ppush_ok p s n f k j now w h hv hn hj (by omega)).mono fun e w' ⟨x, he, hb⟩ => ⟨x, he, hb⟩
      · have hE : pushE p n f k j now = 2 := by unfold pushE; rw [if_neg (fun h => h hv), if_neg (fun h => h hn), if_pos hj]
        rw [hE]
        exact (ppush_range p s n f k j now w h hv hn hj).mono fun e w' ⟨he, hb⟩ => ⟨_, he, zero_task _ hb⟩
    · have hE : pushE p n f k j now = 1 := by unfold pushE; rw [if_neg (fun h => h hv), if_pos hn]
      rw [hE]
      exact (ppush_arg p s n f k j now w h hv hn).mono fun e w' ⟨he, hb⟩ => ⟨_, he, zero_task _ hb⟩
  · have hE : pushE p n f k j now = 270 := if_pos hv
    rw [hE]
    exact (ppush_state p s n f k j now w h hc hv).mono fun e w' ⟨he, hb⟩ => ⟨_, he, zero_task _ hb⟩
end Go.Proofs.YtedgchafligndaaGreat
/- The program's task: what a tick makes of a task at which a job waits; no condition but those that each row names. -/
namespace Go.Proofs.YtedgchafligndaaGreat
open Go.RowKit Go.Shelf Tsk

/-- The blocks that the program's give works on. -/
structure GS (w : World) (p : Int) (sv : Value) (k : Ac) (wx : World) : Prop where
  t : HasT wx w.heap.size p sv k
  r : HasT wx (w.heap.size + 1) 0 (.slice none 0 0) kZ
  below : Below w.heap.size w wx
  sz : w.heap.size + 2 ≤ wx.heap.size
theorem GS.turn {w wx w' : World} {p : Int} {sv : Value} {k : Ac} (h : GS w p sv k wx) (hb : Below wx.heap.size wx w') : GS w p sv k w' := ⟨h.t.below hb, h.r.below hb, bnext h.below hb, Nat.le_trans h.sz hb.size⟩
theorem GS.ran (w : World) (p : Int) (sv : Value) (k : Ac) : GS w p sv k ((w.alloc (.cells #[.int .i64 p, sv, .int .i64 k.g, .int .i64 k.o, .int .i64 k.n, .int .i64 k.d, .int .i64 k.c, .int .i64 k.t] KT)).alloc (.cells #[.int .i64 0, .slice none 0 0, .int .i64 0, .int .i64 0, .int .i64 0, .int .i64 0, .int .i64 0, .int .i64 0] KT)) :=
  ⟨has_old (has_new w _ _ rfl) _, has_new _ _ _ (by simp), ((Below.refl _ _).alloc (Nat.le_refl _) _).alloc (by simp) _, by simp⟩
theorem arr6 (u0 u1 u2 u3 u4 u5 u6 u7 v2 v3 v4 v5 v6 v7 : Value) : (((((#[u0, u1, u2, u3, u4, u5, u6, u7].setIfInBounds 2 v2).setIfInBounds 3 v3).setIfInBounds 4 v4).setIfInBounds 5 v5).setIfInBounds 6 v6).setIfInBounds 7 v7 = #[u0, u1, v2, v3, v4, v5, v6, v7] := by
  rw [← Array.toList_inj]
  simp only [Array.toList_setIfInBounds]
  rfl
theorem HasT.setK {W : World} {g : Nat} {p : Int} {s : Value} {k k' : Ac} (h : HasT W g p s k) :
    HasT ((((((W.setCell ⟨g, 2, none⟩ (.int .i64 k'.g)).setCell ⟨g, 3, none⟩ (.int .i64 k'.o)).setCell ⟨g, 4, none⟩ (.int .i64 k'.n)).setCell ⟨g, 5, none⟩ (.int .i64 k'.d)).setCell ⟨g, 6, none⟩ (.int .i64 k'.c)).setCell ⟨g, 7, none⟩ (.int .i64 k'.t)) g p s k' := by
  unfold HasT at h
  have a2 := has_set h 2 (.int .i64 k'.g)
  have a3 := has_set a2 3 (.int .i64 k'.o)
  have a4 := has_set a3 4 (.int .i64 k'.n)
  have a5 := has_set a4 5 (.int .i64 k'.d)
  have a6 := has_set a5 6 (.int .i64 k'.c)
  have a7 := has_set a6 7 (.int .i64 k'.t)
  clear h a2 a3 a4 a5 a6
  rw [arr6] at a7
  exact a7
theorem GS.acc {w wx : World} {p : Int} {sv : Value} {k : Ac} (h : GS w p sv k wx) (k' : Ac) :
    GS w p sv k' ((((((wx.setCell ⟨w.heap.size, 2, none⟩ (.int .i64 k'.g)).setCell ⟨w.heap.size, 3, none⟩ (.int .i64 k'.o)).setCell ⟨w.heap.size, 4, none⟩ (.int .i64 k'.n)).setCell ⟨w.heap.size, 5, none⟩ (.int .i64 k'.d)).setCell ⟨w.heap.size, 6, none⟩ (.int .i64 k'.c)).setCell ⟨w.heap.size, 7, none⟩ (.int .i64 k'.t)) := by
  refine ⟨HasT.setK h.t, ?_, ?_, ?_⟩
  · iterate 6 refine HasT.other ?_ _ _ (by show w.heap.size ≠ w.heap.size + 1; omega)
    exact h.r
  · iterate 6 refine below_low ?_ _ _ (Nat.le_refl _)
    exact h.below
  · have := h.sz
    simpa [World.setCell] using this
theorem QJ.holdsK {w wr w' : World} {b n : Nat} {s : Value} {f : Nat → Jb} {z : Int} (h : QJ w b s n f z wr) (hk : Keeps (fun x => x < w.heap.size) wr w') : Holds_J w' (.pointer (some ⟨b, 0, none⟩)) (fL f n) := by
  obtain ⟨⟨A, h1, h2, _, _, h4⟩, h3⟩ := h
  exact .inr ⟨_, b, s, A, rfl, h1.keeps hk (by have := h1.hb; omega) (fun g e => by have := (h1.own.lt g e).1; omega), h2, h4⟩
set_option maxHeartbeats 1000000 in
set_option maxRecDepth 100000 in
theorem pgive_on (p : Int) (s : Value) (n : Nat) (f : Nat → Jb) (k : Ac) (now : Int) (w : World) (h : Jobs w s n f) (hv : okT p n f k) (_ : 0 ≤ now ∧ now < 1073741824) (h0 : 0 < n) (hg : k.g < 1073741824) (hl : (f 0).l ≠ 1) (hc : (f 0).c ≠ 1) :
    Calls Tryz.prog 79 #[tV p s k, .int .i64 (now + 1)] w fun e w' => ∃ x, e = .returned (.tuple #[x, .int .i64 0, .int .i64 0]) ∧ TaskO w p n (upd f 0 (runJ (f 0))) ⟨k.g + 1, k.o + 1, k.n, k.d, k.c, k.t⟩ x w' := by
  have hok := hv.2.2.1 0 h0
  have hok2 := hv.2.2.2
  have HOK := Lib.hid hok
  have HJ := Lib.hid h
  have HQ := Lib.hid (fun w (h : Jobs w s n f) => pqueue s n f w h hv.2.1)
  have HLf := Lib.hid (fun w => pleft (f 0) w hok)
  have HWk := Lib.hid (fun w => pworked (f 0) w hok)
  obtain ⟨q, cap, rfl, _, _⟩ := h
  obtain ⟨kg, ko, kn, kd, kc, kt⟩ := k
  dsimp only at hg
  obtain ⟨⟨⟨g0, g1⟩, hog, hng⟩, ⟨k1, k2⟩, ⟨k3, k4⟩, ⟨k5, k6⟩⟩ := (okA_mk _ _ _ _ _ _).1 hok2
  subst hog hng
  have v1 : IntKind.i64.wrap (ko + 1) = ko + 1 := IntWalk.i64_in _ (by omega)
  obtain ⟨WA, hWA⟩ : ∃ WA, WA = (w.alloc (.cells #[.int .i64 p, .slice q n cap, .int .i64 (ko + 1), .int .i64 (ko + 1), .int .i64 0, .int .i64 kd, .int .i64 kc, .int .i64 kt] KT)).alloc (.cells #[.int .i64 0, .slice none 0 0, .int .i64 0, .int .i64 0, .int .i64 0, .int .i64 0, .int .i64 0, .int .i64 0] KT) := ⟨_, rfl⟩
  have HS := Lib.hid (show GS w p (.slice q n cap) ⟨ko + 1, ko + 1, 0, kd, kc, kt⟩ WA from by rw [hWA]; exact GS.ran w p (.slice q n cap) ⟨ko + 1, ko + 1, 0, kd, kc, kt⟩)
  have HW := Lib.hid hWA
  have hn8 := hv.2.1
  clear hv hok hok2 hWA
  have hneed : 1 < need (f 0) := by
    obtain ⟨⟨l1, l2⟩, ⟨c1, c2⟩, _⟩ := HOK.out
    unfold need
    split <;> omega
  have HF := Lib.hid (show f = f from rfl)
  obtain ⟨jb, hjb⟩ : ∃ jb, jb = f 0 := ⟨_, rfl⟩
  rw [← hjb] at HLf HWk HOK hneed hl hc
  rw [← hjb]
  have HJB := Lib.hid hjb
  clear hjb
  obtain ⟨jl, jc, ja, jd⟩ := jb
  dsimp only at hl hc
  obtain ⟨z, hz⟩ : ∃ z, z = need ⟨jl, jc, ja, jd⟩ := ⟨_, rfl⟩
  rw [← hz] at HLf hneed
  clear hz
  obtain ⟨x, hx⟩ : ∃ x, x = runJ ⟨jl, jc, ja, jd⟩ := ⟨_, rfl⟩
  rw [← hx] at HWk
  rw [← hx]
  clear hx
  obtain ⟨xl, xc, xa, xd⟩ := x
  go_enter Tryz.func79, Tryz.ntmps79
  go_wp2_with fail
  rw [← HW.out]
  refine (HQ.out _ (HJ.out.below HS.out.below)).mono ?_
  rintro e w1 ⟨b, s1, rfl, hq1⟩
  have H1 := Lib.hid (HS.out.turn hq1.below)
  have hhd := qhead _ _ _ _ _ _ _ hq1 h0
  rw [← HJB.out] at hhd
  have HH := Lib.hid hhd
  have HQ1 := Lib.hid hq1
  clear hq1 hhd
  go_wp2_with fail
  refine HH.out.mono ?_
  rintro e w2 ⟨rfl, hb2⟩
  obtain ⟨W3, hW3⟩ : ∃ W3, W3 = w2.alloc (.cells #[.int .i64 jl, .int .i64 jc, .int .i64 ja, .int .i64 jd] JT) := ⟨_, rfl⟩
  have H3 := Lib.hid (show GS w p (.slice q n cap) ⟨ko + 1, ko + 1, 0, kd, kc, kt⟩ W3 ∧ HasJ0 W3 w2.heap.size ⟨jl, jc, ja, jd⟩ ∧ QJ WA b s1 n f n W3 from by
    have hb3 : Below w1.heap.size w1 W3 := by rw [hW3]; exact hb2.alloc hb2.size _
    exact ⟨H1.out.turn hb3, by rw [hW3]; exact has_new _ _ _ rfl, HQ1.out.turn hb3⟩)
  have hlt := (HQ1.out.turn hb2).lt
  have hbl := hlt.1
  have HG := Lib.hid hlt.2
  have HW3 := Lib.hid hW3
  clear hW3 hb2 hlt
  go_wp2_with fail
  rw [← HW3.out]
  refine (HLf.out _).mono ?_
  rintro e w4 ⟨rfl, hb4⟩
  have H4 := Lib.hid (show GS w p (.slice q n cap) ⟨ko + 1, ko + 1, 0, kd, kc, kt⟩ w4 ∧ HasJ0 w4 w2.heap.size ⟨jl, jc, ja, jd⟩ ∧ QJ WA b s1 n f n w4 from ⟨H3.out.1.turn hb4, (hb4.block _ (has_lt H3.out.2.1)).trans H3.out.2.1, H3.out.2.2.turn hb4⟩)
  obtain ⟨j0, j1, j2, j3⟩ := H4.out.2.1.cells
  clear hb4
  go_wp2_with fail
  refine (HWk.out _).mono ?_
  rintro e w5 ⟨rfl, hb5⟩
  have HP := Lib.hid (qput _ _ _ _ _ _ _ (H4.out.2.2.turn hb5) ⟨xl, xc, xa, xd⟩ h0 (by omega))
  clear hb5 j0 j1 j2 j3
  go_wp2_with fail
  refine HP.out.mono ?_
  rintro e w6 ⟨rfl, hq6, hk6⟩
  have H6 := Lib.hid (HS.out.turn hq6.below)
  have HL6 := Lib.hid (qlist _ _ _ _ _ _ _ hq6)
  obtain ⟨x0, x1, x2, x3, x4, x5, x6, x7⟩ := H6.out.t.cells
  clear hq6 hk6
  go_wp2_with fail
  refine HL6.out.mono ?_
  rintro e w7 ⟨p7, c7, rfl, ho7, hb7⟩
  have H7 := Lib.hid (H6.out.turn hb7)
  have HO7 := Lib.hid ho7
  have hs6 := H6.out.sz
  obtain ⟨y0, y1, y2, y3, y4, y5, y6, y7⟩ := H7.out.r.cells
  have yf := fun j => has_free H7.out.r j
  clear x0 x1 x2 x3 x4 x5 x6 x7
  obtain ⟨x0, x1, x2, x3, x4, x5, x6, x7⟩ := H7.out.t.cells
  have xf := fun j => has_free H7.out.t j
  clear hb7 ho7
  go_wp2_with fail
  refine bodyPost_ret (v := .tuple #[tV p (.slice p7 (n) c7) ⟨ko + 1, ko + 1, 0, kd, kc, kt⟩, .int .i64 0, .int .i64 0]) (by simp [results, Tryz.results79, go_sem, y0, y1, y2, y3, y4, y5, y6, y7]) rfl ⟨_, rfl, p7, c7, rfl, ?_, ?_⟩
  · refine own_base2 (B := w6.heap.size) ?_ (by omega)
    repeat (first | (with_reducible exact HO7.out) | refine own_low ?_ _ _ (by first | (simp; done) | (simp; omega)))
  · repeat (first | (with_reducible exact H7.out.below) | refine below_low ?_ _ _ (by first | (simp; done) | (simp; omega)))
set_option maxHeartbeats 1000000 in
set_option maxRecDepth 100000 in
theorem pgive_done (p : Int) (s : Value) (n : Nat) (f : Nat → Jb) (k : Ac) (now : Int) (w : World) (h : Jobs w s n f) (hv : okT p n f k) (hn : 0 ≤ now ∧ now < 1073741824) (h0 : 0 < n) (hg : k.g < 1073741824) (hl : (f 0).l = 1) :
    Calls Tryz.prog 79 #[tV p s k, .int .i64 (now + 1)] w fun e w' => ∃ x, e = .returned (.tuple #[x, .int .i64 1, .int .i64 (lateS (f 0) (now + 1))]) ∧ TaskO w p (n - 1) (fun i => f (i + 1)) (endedK ⟨k.g + 1, k.o + 1, k.n, k.d, k.c, k.t⟩ 1 (lateS (f 0) (now + 1))) x w' := by
  have hok := hv.2.2.1 0 h0
  have hok2 := hv.2.2.2
  have HOK := Lib.hid hok
  have HJ := Lib.hid h
  have HQ := Lib.hid (fun w (h : Jobs w s n f) => pqueue s n f w h hv.2.1)
  have HLf := Lib.hid (fun w => pleft (f 0) w hok)
  have HWk := Lib.hid (fun w => pworked (f 0) w hok)
  obtain ⟨q, cap, rfl, _, _⟩ := h
  obtain ⟨kg, ko, kn, kd, kc, kt⟩ := k
  dsimp only at hg
  obtain ⟨⟨⟨g0, g1⟩, hog, hng⟩, ⟨k1, k2⟩, ⟨k3, k4⟩, ⟨k5, k6⟩⟩ := (okA_mk _ _ _ _ _ _).1 hok2
  subst hog hng
  have v1 : IntKind.i64.wrap (ko + 1) = ko + 1 := IntWalk.i64_in _ (by omega)
  obtain ⟨WA, hWA⟩ : ∃ WA, WA = (w.alloc (.cells #[.int .i64 p, .slice q n cap, .int .i64 (ko + 1), .int .i64 (ko + 1), .int .i64 0, .int .i64 kd, .int .i64 kc, .int .i64 kt] KT)).alloc (.cells #[.int .i64 0, .slice none 0 0, .int .i64 0, .int .i64 0, .int .i64 0, .int .i64 0, .int .i64 0, .int .i64 0] KT) := ⟨_, rfl⟩
  have HS := Lib.hid (show GS w p (.slice q n cap) ⟨ko + 1, ko + 1, 0, kd, kc, kt⟩ WA from by rw [hWA]; exact GS.ran w p (.slice q n cap) ⟨ko + 1, ko + 1, 0, kd, kc, kt⟩)
  have HW := Lib.hid hWA
  have hn8 := hv.2.1
  clear hv hok hok2 hWA
  have hneed : need (f 0) ≤ 1 := by
    obtain ⟨⟨l1, l2⟩, ⟨c1, c2⟩, _⟩ := HOK.out
    unfold need
    split <;> omega
  have HLt := Lib.hid (fun w => plate (f 0) (now + 1) w HOK.out (by omega) (by omega))
  have HF := Lib.hid (show f = f from rfl)
  obtain ⟨jb, hjb⟩ : ∃ jb, jb = f 0 := ⟨_, rfl⟩
  rw [← hjb] at HLf HWk HOK hneed HLt hl
  rw [← hjb]
  have HJB := Lib.hid hjb
  clear hjb
  obtain ⟨jl, jc, ja, jd⟩ := jb
  dsimp only at hl
  obtain ⟨z, hz⟩ : ∃ z, z = need ⟨jl, jc, ja, jd⟩ := ⟨_, rfl⟩
  rw [← hz] at HLf hneed
  clear hz HWk
  obtain ⟨ll, hll⟩ : ∃ ll, ll = lateS ⟨jl, jc, ja, jd⟩ (now + 1) := ⟨_, rfl⟩
  rw [← hll] at HLt
  rw [← hll]
  clear hll
  have hz1 : decide (1 < z) = false := decide_eq_false (by omega)
  have HE := Lib.hid (fun w => pended ⟨ko + 1, ko + 1, 0, kd, kc, kt⟩ 1 ll w ⟨by dsimp only; omega, by dsimp only; omega⟩ ⟨by dsimp only; omega, by dsimp only; omega⟩ ⟨by dsimp only; omega, by dsimp only; omega⟩)
  dsimp only
  obtain ⟨E, hE⟩ : ∃ E, E = endedK ⟨ko + 1, ko + 1, 0, kd, kc, kt⟩ 1 ll := ⟨_, rfl⟩
  rw [← hE] at HE
  rw [← hE]
  clear hE
  obtain ⟨eg, eo, en, ed, ec, et⟩ := E
  have hl2 : (jl == 1) = true := by simpa using hl
  clear hl
  go_enter Tryz.func79, Tryz.ntmps79
  go_wp2_with fail
  rw [← HW.out]
  refine (HQ.out _ (HJ.out.below HS.out.below)).mono ?_
  rintro e w1 ⟨b, s1, rfl, hq1⟩
  have H1 := Lib.hid (HS.out.turn hq1.below)
  have hhd := qhead _ _ _ _ _ _ _ hq1 h0
  rw [← HJB.out] at hhd
  have HH := Lib.hid hhd
  have HQ1 := Lib.hid hq1
  clear hq1 hhd
  go_wp2_with fail
  refine HH.out.mono ?_
  rintro e w2 ⟨rfl, hb2⟩
  obtain ⟨W3, hW3⟩ : ∃ W3, W3 = w2.alloc (.cells #[.int .i64 jl, .int .i64 jc, .int .i64 ja, .int .i64 jd] JT) := ⟨_, rfl⟩
  have H3 := Lib.hid (show GS w p (.slice q n cap) ⟨ko + 1, ko + 1, 0, kd, kc, kt⟩ W3 ∧ HasJ0 W3 w2.heap.size ⟨jl, jc, ja, jd⟩ ∧ QJ WA b s1 n f n W3 from by
    have hb3 : Below w1.heap.size w1 W3 := by rw [hW3]; exact hb2.alloc hb2.size _
    exact ⟨H1.out.turn hb3, by rw [hW3]; exact has_new _ _ _ rfl, HQ1.out.turn hb3⟩)
  have hlt := (HQ1.out.turn hb2).lt
  have hbl := hlt.1
  have HG := Lib.hid hlt.2
  have HW3 := Lib.hid hW3
  clear hW3 hb2 hlt
  go_wp2_with fail
  rw [← HW3.out]
  refine (HLf.out _).mono ?_
  rintro e w4 ⟨rfl, hb4⟩
  have H4 := Lib.hid (show GS w p (.slice q n cap) ⟨ko + 1, ko + 1, 0, kd, kc, kt⟩ w4 ∧ HasJ0 w4 w2.heap.size ⟨jl, jc, ja, jd⟩ ∧ QJ WA b s1 n f n w4 from ⟨H3.out.1.turn hb4, (hb4.block _ (has_lt H3.out.2.1)).trans H3.out.2.1, H3.out.2.2.turn hb4⟩)
  obtain ⟨j0, j1, j2, j3⟩ := H4.out.2.1.cells
  clear hb4
  go_wp2_with fail
  have HP := Lib.hid (qpop _ _ _ _ _ _ _ H4.out.2.2 h0)
  rw [← HJB.out] at HP
  refine HP.out.mono ?_
  rintro e w5 ⟨rfl, s5, hq5, hk5⟩
  have H5 := Lib.hid (HS.out.turn hq5.below)
  have hj5 := HasJ0.keeps H4.out.2.1 hk5 (by rintro (e | e); omega; have := HG.out _ e; omega)
  obtain ⟨i0, i1, i2, i3⟩ := hj5.cells
  have HQ5 := Lib.hid hq5
  clear hq5 hk5 hj5 j0 j1 j2 j3
  go_wp2_with fail
  refine (HLt.out _).mono ?_
  rintro e w6 ⟨rfl, hb6⟩
  have H6 := Lib.hid (H5.out.turn hb6)
  have HQ6 := Lib.hid (HQ5.out.turn hb6)
  obtain ⟨x0, x1, x2, x3, x4, x5, x6, x7⟩ := H6.out.t.cells
  clear hb6 i0 i1 i2 i3
  go_wp2_with fail
  refine (HE.out _).mono ?_
  rintro e w8 ⟨rfl, hb8⟩
  have H8 := Lib.hid (H6.out.turn hb8)
  have HQ8 := Lib.hid (HQ6.out.turn hb8)
  clear x0 x1 x2 x3 x4 x5 x6 x7 hb8
  obtain ⟨x0, x1, x2, x3, x4, x5, x6, x7⟩ := H8.out.t.cells
  have xf8 := fun j => has_free H8.out.t j
  have hws : w.heap.size < WA.heap.size := by have := HS.out.sz; omega
  go_wp2_with fail
  obtain ⟨W9, hW9⟩ : ∃ W9, W9 = ((((((w8.setCell ⟨w.heap.size, 2, none⟩ (.int .i64 eg)).setCell ⟨w.heap.size, 3, none⟩ (.int .i64 eo)).setCell ⟨w.heap.size, 4, none⟩ (.int .i64 en)).setCell ⟨w.heap.size, 5, none⟩ (.int .i64 ed)).setCell ⟨w.heap.size, 6, none⟩ (.int .i64 ec)).setCell ⟨w.heap.size, 7, none⟩ (.int .i64 et)) := ⟨_, rfl⟩
  have H9 := Lib.hid (show GS w p (.slice q n cap) ⟨eg, eo, en, ed, ec, et⟩ W9 from by rw [hW9]; exact H8.out.acc ⟨eg, eo, en, ed, ec, et⟩)
  have HL9 := Lib.hid (jlist_any W9 _ (n - 1) (fun i => f (i + 1)) (HQ8.out.holdsK (by
    rw [hW9]
    iterate 6 refine Keeps.setCell ?_ _ _ (.inl hws)
    exact Keeps.refl _ _)))
  rw [← hW9]
  clear hW9 x0 x1 x2 x3 x4 x5 x6 x7 xf8
  refine HL9.out.mono ?_
  rintro e w7 ⟨p7, c7, rfl, ho7, hb7⟩
  have H7 := Lib.hid (H9.out.turn hb7)
  have HO7 := Lib.hid ho7
  have hs6 := H9.out.sz
  obtain ⟨y0, y1, y2, y3, y4, y5, y6, y7⟩ := H7.out.r.cells
  have yf := fun j => has_free H7.out.r j
  obtain ⟨x0, x1, x2, x3, x4, x5, x6, x7⟩ := H7.out.t.cells
  have xf := fun j => has_free H7.out.t j
  clear hb7 ho7
  go_wp2_with fail
  refine bodyPost_ret (v := .tuple #[tV p (.slice p7 (n - 1) c7) ⟨eg, eo, en, ed, ec, et⟩, .int .i64 1, .int .i64 ll]) (by simp [results, Tryz.results79, go_sem, y0, y1, y2, y3, y4, y5, y6, y7]) rfl ⟨_, rfl, p7, c7, rfl, ?_, ?_⟩
  · refine own_base2 (B := W9.heap.size) ?_ (by omega)
    repeat (first | (with_reducible exact HO7.out) | refine own_low ?_ _ _ (by first | (simp; done) | (simp; omega)))
  · repeat (first | (with_reducible exact H7.out.below) | refine below_low ?_ _ _ (by first | (simp; done) | (simp; omega)))
set_option maxHeartbeats 1000000 in
set_option maxRecDepth 100000 in
theorem pgive_cut (p : Int) (s : Value) (n : Nat) (f : Nat → Jb) (k : Ac) (now : Int) (w : World) (h : Jobs w s n f) (hv : okT p n f k) (hn : 0 ≤ now ∧ now < 1073741824) (h0 : 0 < n) (hg : k.g < 1073741824) (hl : (f 0).l ≠ 1) (hc : (f 0).c = 1) :
    Calls Tryz.prog 79 #[tV p s k, .int .i64 (now + 1)] w fun e w' => ∃ x, e = .returned (.tuple #[x, .int .i64 2, .int .i64 (lateS (f 0) (now + 1))]) ∧ TaskO w p (n - 1) (fun i => f (i + 1)) (endedK ⟨k.g + 1, k.o + 1, k.n, k.d, k.c, k.t⟩ 2 (lateS (f 0) (now + 1))) x w' := by
  have hok := hv.2.2.1 0 h0
  have hok2 := hv.2.2.2
  have HOK := Lib.hid hok
  have HJ := Lib.hid h
  have HQ := Lib.hid (fun w (h : Jobs w s n f) => pqueue s n f w h hv.2.1)
  have HLf := Lib.hid (fun w => pleft (f 0) w hok)
  have HWk := Lib.hid (fun w => pworked (f 0) w hok)
  obtain ⟨q, cap, rfl, _, _⟩ := h
  obtain ⟨kg, ko, kn, kd, kc, kt⟩ := k
  dsimp only at hg
  obtain ⟨⟨⟨g0, g1⟩, hog, hng⟩, ⟨k1, k2⟩, ⟨k3, k4⟩, ⟨k5, k6⟩⟩ := (okA_mk _ _ _ _ _ _).1 hok2
  subst hog hng
  have v1 : IntKind.i64.wrap (ko + 1) = ko + 1 := IntWalk.i64_in _ (by omega)
  obtain ⟨WA, hWA⟩ : ∃ WA, WA = (w.alloc (.cells #[.int .i64 p, .slice q n cap, .int .i64 (ko + 1), .int .i64 (ko + 1), .int .i64 0, .int .i64 kd, .int .i64 kc, .int .i64 kt] KT)).alloc (.cells #[.int .i64 0, .slice none 0 0, .int .i64 0, .int .i64 0, .int .i64 0, .int .i64 0, .int .i64 0, .int .i64 0] KT) := ⟨_, rfl⟩
  have HS := Lib.hid (show GS w p (.slice q n cap) ⟨ko + 1, ko + 1, 0, kd, kc, kt⟩ WA from by rw [hWA]; exact GS.ran w p (.slice q n cap) ⟨ko + 1, ko + 1, 0, kd, kc, kt⟩)
  have HW := Lib.hid hWA
  have hn8 := hv.2.1
  clear hv hok hok2 hWA
  have hneed : need (f 0) ≤ 1 := by
    obtain ⟨⟨l1, l2⟩, ⟨c1, c2⟩, _⟩ := HOK.out
    unfold need
    split <;> omega
  have HLt := Lib.hid (fun w => plate (f 0) (now + 1) w HOK.out (by omega) (by omega))
  have HF := Lib.hid (show f = f from rfl)
  obtain ⟨jb, hjb⟩ : ∃ jb, jb = f 0 := ⟨_, rfl⟩
  rw [← hjb] at HLf HWk HOK hneed HLt hl hc
  rw [← hjb]
  have HJB := Lib.hid hjb
  clear hjb
  obtain ⟨jl, jc, ja, jd⟩ := jb
  dsimp only at hl hc
  obtain ⟨z, hz⟩ : ∃ z, z = need ⟨jl, jc, ja, jd⟩ := ⟨_, rfl⟩
  rw [← hz] at HLf hneed
  clear hz HWk
  obtain ⟨ll, hll⟩ : ∃ ll, ll = lateS ⟨jl, jc, ja, jd⟩ (now + 1) := ⟨_, rfl⟩
  rw [← hll] at HLt
  rw [← hll]
  clear hll
  have hz1 : decide (1 < z) = false := decide_eq_false (by omega)
  have HE := Lib.hid (fun w => pended ⟨ko + 1, ko + 1, 0, kd, kc, kt⟩ 2 ll w ⟨by dsimp only; omega, by dsimp only; omega⟩ ⟨by dsimp only; omega, by dsimp only; omega⟩ ⟨by dsimp only; omega, by dsimp only; omega⟩)
  dsimp only
  obtain ⟨E, hE⟩ : ∃ E, E = endedK ⟨ko + 1, ko + 1, 0, kd, kc, kt⟩ 2 ll := ⟨_, rfl⟩
  rw [← hE] at HE
  rw [← hE]
  clear hE
  obtain ⟨eg, eo, en, ed, ec, et⟩ := E
  have hl2 : (jl == 1) = false := by simpa using hl
  clear hl hc
  go_enter Tryz.func79, Tryz.ntmps79
  go_wp2_with fail
  rw [← HW.out]
  refine (HQ.out _ (HJ.out.below HS.out.below)).mono ?_
  rintro e w1 ⟨b, s1, rfl, hq1⟩
  have H1 := Lib.hid (HS.out.turn hq1.below)
  have hhd := qhead _ _ _ _ _ _ _ hq1 h0
  rw [← HJB.out] at hhd
  have HH := Lib.hid hhd
  have HQ1 := Lib.hid hq1
  clear hq1 hhd
  go_wp2_with fail
  refine HH.out.mono ?_
  rintro e w2 ⟨rfl, hb2⟩
  obtain ⟨W3, hW3⟩ : ∃ W3, W3 = w2.alloc (.cells #[.int .i64 jl, .int .i64 jc, .int .i64 ja, .int .i64 jd] JT) := ⟨_, rfl⟩
  have H3 := Lib.hid (show GS w p (.slice q n cap) ⟨ko + 1, ko + 1, 0, kd, kc, kt⟩ W3 ∧ HasJ0 W3 w2.heap.size ⟨jl, jc, ja, jd⟩ ∧ QJ WA b s1 n f n W3 from by
    have hb3 : Below w1.heap.size w1 W3 := by rw [hW3]; exact hb2.alloc hb2.size _
    exact ⟨H1.out.turn hb3, by rw [hW3]; exact has_new _ _ _ rfl, HQ1.out.turn hb3⟩)
  have hlt := (HQ1.out.turn hb2).lt
  have hbl := hlt.1
  have HG := Lib.hid hlt.2
  have HW3 := Lib.hid hW3
  clear hW3 hb2 hlt
  go_wp2_with fail
  rw [← HW3.out]
  refine (HLf.out _).mono ?_
  rintro e w4 ⟨rfl, hb4⟩
  have H4 := Lib.hid (show GS w p (.slice q n cap) ⟨ko + 1, ko + 1, 0, kd, kc, kt⟩ w4 ∧ HasJ0 w4 w2.heap.size ⟨jl, jc, ja, jd⟩ ∧ QJ WA b s1 n f n w4 from ⟨H3.out.1.turn hb4, (hb4.block _ (has_lt H3.out.2.1)).trans H3.out.2.1, H3.out.2.2.turn hb4⟩)
  obtain ⟨j0, j1, j2, j3⟩ := H4.out.2.1.cells
  clear hb4
  go_wp2_with fail
  have HP := Lib.hid (qpop _ _ _ _ _ _ _ H4.out.2.2 h0)
  rw [← HJB.out] at HP
  refine HP.out.mono ?_
  rintro e w5 ⟨rfl, s5, hq5, hk5⟩
  have H5 := Lib.hid (HS.out.turn hq5.below)
  have hj5 := HasJ0.keeps H4.out.2.1 hk5 (by rintro (e | e); omega; have := HG.out _ e; omega)
  obtain ⟨i0, i1, i2, i3⟩ := hj5.cells
  have HQ5 := Lib.hid hq5
  clear hq5 hk5 hj5 j0 j1 j2 j3
  go_wp2_with fail
  refine (HLt.out _).mono ?_
  rintro e w6 ⟨rfl, hb6⟩
  have H6 := Lib.hid (H5.out.turn hb6)
  have HQ6 := Lib.hid (HQ5.out.turn hb6)
  obtain ⟨x0, x1, x2, x3, x4, x5, x6, x7⟩ := H6.out.t.cells
  clear hb6 i0 i1 i2 i3
  go_wp2_with fail
  refine (HE.out _).mono ?_
  rintro e w8 ⟨rfl, hb8⟩
  have H8 := Lib.hid (H6.out.turn hb8)
  have HQ8 := Lib.hid (HQ6.out.turn hb8)
  clear x0 x1 x2 x3 x4 x5 x6 x7 hb8
  obtain ⟨x0, x1, x2, x3, x4, x5, x6, x7⟩ := H8.out.t.cells
  have xf8 := fun j => has_free H8.out.t j
  have hws : w.heap.size < WA.heap.size := by have := HS.out.sz; omega
  go_wp2_with fail
  obtain ⟨W9, hW9⟩ : ∃ W9, W9 = ((((((w8.setCell ⟨w.heap.size, 2, none⟩ (.int .i64 eg)).setCell ⟨w.heap.size, 3, none⟩ (.int .i64 eo)).setCell ⟨w.heap.size, 4, none⟩ (.int .i64 en)).setCell ⟨w.heap.size, 5, none⟩ (.int .i64 ed)).setCell ⟨w.heap.size, 6, none⟩ (.int .i64 ec)).setCell ⟨w.heap.size, 7, none⟩ (.int .i64 et)) := ⟨_, rfl⟩
  have H9 := Lib.hid (show GS w p (.slice q n cap) ⟨eg, eo, en, ed, ec, et⟩ W9 from by rw [hW9]; exact H8.out.acc ⟨eg, eo, en, ed, ec, et⟩)
  have HL9 := Lib.hid (jlist_any W9 _ (n - 1) (fun i => f (i + 1)) (HQ8.out.holdsK (by
    rw [hW9]
    iterate 6 refine Keeps.setCell ?_ _ _ (.inl hws)
    exact Keeps.refl _ _)))
  rw [← hW9]
  clear hW9 x0 x1 x2 x3 x4 x5 x6 x7 xf8
  refine HL9.out.mono ?_
  rintro e w7 ⟨p7, c7, rfl, ho7, hb7⟩
  have H7 := Lib.hid (H9.out.turn hb7)
  have HO7 := Lib.hid ho7
  have hs6 := H9.out.sz
  obtain ⟨y0, y1, y2, y3, y4, y5, y6, y7⟩ := H7.out.r.cells
  have yf := fun j => has_free H7.out.r j
  obtain ⟨x0, x1, x2, x3, x4, x5, x6, x7⟩ := H7.out.t.cells
  have xf := fun j => has_free H7.out.t j
  clear hb7 ho7
  go_wp2_with fail
  refine bodyPost_ret (v := .tuple #[tV p (.slice p7 (n - 1) c7) ⟨eg, eo, en, ed, ec, et⟩, .int .i64 2, .int .i64 ll]) (by simp [results, Tryz.results79, go_sem, y0, y1, y2, y3, y4, y5, y6, y7]) rfl ⟨_, rfl, p7, c7, rfl, ?_, ?_⟩
  · refine own_base2 (B := W9.heap.size) ?_ (by omega)
    repeat (first | (with_reducible exact HO7.out) | refine own_low ?_ _ _ (by first | (simp; done) | (simp; omega)))
  · repeat (first | (with_reducible exact H7.out.below) | refine below_low ?_ _ _ (by first | (simp; done) | (simp; omega)))
end Go.Proofs.YtedgchafligndaaGreat
/- The program's task: Run; no condition but those that each row names. -/
namespace Go.Proofs.YtedgchafligndaaGreat
open Go.RowKit Go.Shelf Tsk

theorem taskO_eq {w w' : World} {p : Int} {n n' : Nat} {f f' : Nat → Jb} {k k' : Ac} {x : Value} (h : TaskO w p n f k x w') (hn : n' = n) (hf : f' = f) (hk : k' = k) : TaskO w p n' f' k' x w' := by rw [hn, hf, hk]; exact h
theorem late_run {j : Jb} {now : Int} (h : okJ j) (he : j.l = 1 ∨ j.c = 1) : lateS j (now + 1) = runL j now := by
  obtain ⟨_, _, _, d0, _⟩ := h
  unfold lateS runL
  by_cases hd : j.d = 0
  · rw [if_pos hd, if_neg (by omega)]
  · rw [if_neg hd]
    by_cases hz : 0 < now + 1 - j.a - j.d
    · rw [if_pos ⟨he, by omega, hz⟩]; omega
    · rw [if_neg (by omega)]; omega
theorem pgive_any (p : Int) (s : Value) (n : Nat) (f : Nat → Jb) (k : Ac) (now : Int) (w : World) (h : Jobs w s n f) (hv : okT p n f k) (hn : 0 ≤ now ∧ now < 1073741824) (h0 : 0 < n) (hg : k.g < 1073741824) :
    Calls Tryz.prog 79 #[tV p s k, .int .i64 (now + 1)] w fun e w' => ∃ x, e = .returned (.tuple #[x, .int .i64 (runW (f 0)), .int .i64 (runL (f 0) now)]) ∧ TaskO w p (runN n (f 0)) (runF f) (runK k (f 0) now) x w' := by
  have hok := hv.2.2.1 0 h0
  by_cases hl : (f 0).l = 1
  · refine (pgive_done p s n f k now w h hv hn h0 hg hl).mono fun e w' ⟨x, he, ht⟩ => ⟨x, ?_, taskO_eq ht ?_ ?_ ?_⟩
    · rw [he, late_run hok (.inl hl), show runW (f 0) = 1 from if_pos hl]
    · unfold runN; rw [if_pos (.inl hl)]
    · unfold runF; rw [if_pos (.inl hl)]
    · rw [late_run hok (.inl hl)]
      unfold endedK runK runL
      refine ac_eq rfl rfl rfl ?_ ?_ ?_
      · rw [if_pos hl, if_pos rfl]
      · rw [if_neg (fun h => h.1 hl), if_pos rfl]
      · dsimp only
        by_cases hq : (f 0).l = 1 ∨ (f 0).c = 1
        · by_cases hz : 0 < (f 0).d ∧ 0 < now + 1 - (f 0).a - (f 0).d
          · rw [if_pos ⟨hq, hz⟩, if_pos (by rw [if_pos ⟨hq, hz⟩]; exact hz.2)]
          · rw [if_neg (fun h => hz h.2), if_neg (by rw [if_neg (fun h => hz h.2)]; omega)]
        · exact absurd (.inl hl) hq
  · by_cases hc : (f 0).c = 1
    · refine (pgive_cut p s n f k now w h hv hn h0 hg hl hc).mono fun e w' ⟨x, he, ht⟩ => ⟨x, ?_, taskO_eq ht ?_ ?_ ?_⟩
      · rw [he, late_run hok (.inr hc), show runW (f 0) = 2 from by unfold runW; rw [if_neg hl, if_pos hc]]
      · unfold runN; rw [if_pos (.inr hc)]
      · unfold runF; rw [if_pos (.inr hc)]
      · rw [late_run hok (.inr hc)]
        unfold endedK runK runL
        refine ac_eq rfl rfl rfl ?_ ?_ ?_
        · rw [if_neg hl, if_neg (by decide)]
        · rw [if_pos ⟨hl, hc⟩, if_neg (by decide)]
        · dsimp only
          by_cases hz : 0 < (f 0).d ∧ 0 < now + 1 - (f 0).a - (f 0).d
          · rw [if_pos ⟨.inr hc, hz⟩, if_pos (by rw [if_pos ⟨.inr hc, hz⟩]; exact hz.2)]
          · rw [if_neg (fun h => hz h.2), if_neg (by rw [if_neg (fun h => hz h.2)]; omega)]
    · have hno : ¬ ((f 0).l = 1 ∨ (f 0).c = 1) := fun h => h.elim hl hc
      refine (pgive_on p s n f k now w h hv hn h0 hg hl hc).mono fun e w' ⟨x, he, ht⟩ => ⟨x, ?_, taskO_eq ht ?_ ?_ ?_⟩
      · rw [he, show runW (f 0) = 0 from by unfold runW; rw [if_neg hl, if_neg hc], show runL (f 0) now = 0 from if_neg (fun h => hno h.1)]
      · unfold runN; rw [if_neg hno]
      · unfold runF; rw [if_neg hno]
      · unfold runK
        refine ac_eq rfl rfl rfl ?_ ?_ ?_
        · rw [if_neg hl]
        · rw [if_neg (fun h => hc h.2)]
        · rw [if_neg (fun h => hno h.1)]
-- Run, way by way
set_option maxHeartbeats 1000000 in
set_option maxRecDepth 100000 in
theorem prun_state (p : Int) (s : Value) (n : Nat) (f : Nat → Jb) (k : Ac) (now : Int) (w : World) (h : Jobs w s n f) (hc : k.c ≤ 9223372036854775807) (hv : ¬ okT p n f k) :
    Calls Tryz.prog 61 #[tV p s k, .int .i64 now] w fun e w' => e = .returned (.tuple #[zT, .int .i64 0, .int .i64 0, errV 270]) ∧ Below w.heap.size w w' := by
  have HV := Lib.hid (fun w (h : Jobs w s n f) => pvalid p s n f k w h hc)
  rw [ok_no hv, errV_ne (by decide)] at HV
  clear hv hc
  have HJ := Lib.hid h
  obtain ⟨q, cap, rfl, _, _⟩ := h
  obtain ⟨kg, ko, kn, kd, kc, kt⟩ := k
  obtain ⟨WA, hWA⟩ : ∃ WA, WA = (w.alloc (.cells #[.int .i64 p, .slice q n cap, .int .i64 kg, .int .i64 ko, .int .i64 kn, .int .i64 kd, .int .i64 kc, .int .i64 kt] KT)).alloc (.cells #[.int .i64 0, .slice none 0 0, .int .i64 0, .int .i64 0, .int .i64 0, .int .i64 0, .int .i64 0, .int .i64 0] KT) := ⟨_, rfl⟩
  have HS := Lib.hid (show GS w p (.slice q n cap) ⟨kg, ko, kn, kd, kc, kt⟩ WA from by rw [hWA]; exact GS.ran w p (.slice q n cap) ⟨kg, ko, kn, kd, kc, kt⟩)
  have HW := Lib.hid hWA
  clear hWA
  go_enter Tryz.func61, Tryz.ntmps61
  go_wp2_with fail
  rw [← HW.out]
  refine (HV.out _ (HJ.out.below HS.out.below)).mono ?_
  rintro e w1 ⟨rfl, hb1⟩
  have H1 := Lib.hid (HS.out.turn hb1)
  clear hb1
  obtain ⟨y0, y1, y2, y3, y4, y5, y6, y7⟩ := H1.out.r.cells
  have yf := fun j => has_free H1.out.r j
  go_wp2_with (fail)
  refine bodyPost_ret (v := .tuple #[zT, .int .i64 0, .int .i64 0, .iface 65 (.int .i64 270)]) (by simp [results, Tryz.results61, go_sem, y0, y1, y2, y3, y4, y5, y6, y7]) rfl ⟨rfl, ?_⟩
  repeat (first | (with_reducible exact H1.out.below) | refine below_low ?_ _ _ (by first | (simp; done) | (simp; omega)))
set_option maxHeartbeats 1000000 in
set_option maxRecDepth 100000 in
theorem prun_arg1 (p : Int) (s : Value) (n : Nat) (f : Nat → Jb) (k : Ac) (now : Int) (w : World) (h : Jobs w s n f) (hv : okT p n f k) (hn : ¬ (0 ≤ now ∧ now ≤ 1073741824)) :
    Calls Tryz.prog 61 #[tV p s k, .int .i64 now] w fun e w' => e = .returned (.tuple #[zT, .int .i64 0, .int .i64 0, errV 1]) ∧ Below w.heap.size w w' := by
  have HV := Lib.hid (fun w (h : Jobs w s n f) => pvalid p s n f k w h (okT_c hv))
  rw [ok_yes hv, errV_0] at HV
  clear hv
  have HJ := Lib.hid h
  obtain ⟨q, cap, rfl, _, _⟩ := h
  obtain ⟨kg, ko, kn, kd, kc, kt⟩ := k
  obtain ⟨WA, hWA⟩ : ∃ WA, WA = (w.alloc (.cells #[.int .i64 p, .slice q n cap, .int .i64 kg, .int .i64 ko, .int .i64 kn, .int .i64 kd, .int .i64 kc, .int .i64 kt] KT)).alloc (.cells #[.int .i64 0, .slice none 0 0, .int .i64 0, .int .i64 0, .int .i64 0, .int .i64 0, .int .i64 0, .int .i64 0] KT) := ⟨_, rfl⟩
  have HS := Lib.hid (show GS w p (.slice q n cap) ⟨kg, ko, kn, kd, kc, kt⟩ WA from by rw [hWA]; exact GS.ran w p (.slice q n cap) ⟨kg, ko, kn, kd, kc, kt⟩)
  have HW := Lib.hid hWA
  clear hWA
  go_enter Tryz.func61, Tryz.ntmps61
  go_wp2_with fail
  rw [← HW.out]
  refine (HV.out _ (HJ.out.below HS.out.below)).mono ?_
  rintro e w1 ⟨rfl, hb1⟩
  have H1 := Lib.hid (HS.out.turn hb1)
  clear hb1
  obtain ⟨y0, y1, y2, y3, y4, y5, y6, y7⟩ := H1.out.r.cells
  have yf := fun j => has_free H1.out.r j
  go_wp2_with (go_at_call 75; refine (ptime _ _).mono ?_; rintro e w1 ⟨rfl, rfl⟩; rw [decide_eq_false hn])
  refine bodyPost_ret (v := .tuple #[zT, .int .i64 0, .int .i64 0, .iface 65 (.int .i64 1)]) (by simp [results, Tryz.results61, go_sem, y0, y1, y2, y3, y4, y5, y6, y7]) rfl ⟨rfl, ?_⟩
  repeat (first | (with_reducible exact H1.out.below) | refine below_low ?_ _ _ (by first | (simp; done) | (simp; omega)))
set_option maxHeartbeats 1000000 in
set_option maxRecDepth 100000 in
theorem prun_arg2 (p : Int) (s : Value) (n : Nat) (f : Nat → Jb) (k : Ac) (now : Int) (w : World) (h : Jobs w s n f) (hv : okT p n f k) (hn : now = 1073741824) :
    Calls Tryz.prog 61 #[tV p s k, .int .i64 now] w fun e w' => e = .returned (.tuple #[zT, .int .i64 0, .int .i64 0, errV 1]) ∧ Below w.heap.size w w' := by
  have HV := Lib.hid (fun w (h : Jobs w s n f) => pvalid p s n f k w h (okT_c hv))
  rw [ok_yes hv, errV_0] at HV
  clear hv
  have htm : 0 ≤ now ∧ now ≤ 1073741824 := by omega
  have hnb : (now == 1073741824) = true := by simpa using hn
  clear hn
  have HJ := Lib.hid h
  obtain ⟨q, cap, rfl, _, _⟩ := h
  obtain ⟨kg, ko, kn, kd, kc, kt⟩ := k
  obtain ⟨WA, hWA⟩ : ∃ WA, WA = (w.alloc (.cells #[.int .i64 p, .slice q n cap, .int .i64 kg, .int .i64 ko, .int .i64 kn, .int .i64 kd, .int .i64 kc, .int .i64 kt] KT)).alloc (.cells #[.int .i64 0, .slice none 0 0, .int .i64 0, .int .i64 0, .int .i64 0, .int .i64 0, .int .i64 0, .int .i64 0] KT) := ⟨_, rfl⟩
  have HS := Lib.hid (show GS w p (.slice q n cap) ⟨kg, ko, kn, kd, kc, kt⟩ WA from by rw [hWA]; exact GS.ran w p (.slice q n cap) ⟨kg, ko, kn, kd, kc, kt⟩)
  have HW := Lib.hid hWA
  clear hWA
  go_enter Tryz.func61, Tryz.ntmps61
  go_wp2_with fail
  rw [← HW.out]
  refine (HV.out _ (HJ.out.below HS.out.below)).mono ?_
  rintro e w1 ⟨rfl, hb1⟩
  have H1 := Lib.hid (HS.out.turn hb1)
  clear hb1
  obtain ⟨y0, y1, y2, y3, y4, y5, y6, y7⟩ := H1.out.r.cells
  have yf := fun j => has_free H1.out.r j
  go_wp2_with (go_at_call 75; refine (ptime _ _).mono ?_; rintro e w1 ⟨rfl, rfl⟩; rw [decide_eq_true htm])
  refine bodyPost_ret (v := .tuple #[zT, .int .i64 0, .int .i64 0, .iface 65 (.int .i64 1)]) (by simp [results, Tryz.results61, go_sem, y0, y1, y2, y3, y4, y5, y6, y7]) rfl ⟨rfl, ?_⟩
  repeat (first | (with_reducible exact H1.out.below) | refine below_low ?_ _ _ (by first | (simp; done) | (simp; omega)))
set_option maxHeartbeats 1000000 in
set_option maxRecDepth 100000 in
theorem prun_none (p : Int) (s : Value) (n : Nat) (f : Nat → Jb) (k : Ac) (now : Int) (w : World) (h : Jobs w s n f) (hv : okT p n f k) (hn : 0 ≤ now ∧ now < 1073741824) (h0 : n = 0) :
    Calls Tryz.prog 61 #[tV p s k, .int .i64 now] w fun e w' => e = .returned (.tuple #[zT, .int .i64 0, .int .i64 0, errV 50]) ∧ Below w.heap.size w w' := by
  have HV := Lib.hid (fun w (h : Jobs w s n f) => pvalid p s n f k w h (okT_c hv))
  rw [ok_yes hv, errV_0] at HV
  clear hv
  have htm : 0 ≤ now ∧ now ≤ 1073741824 := by omega
  have hnb : (now == 1073741824) = false := by simp; omega
  have hz : decide (0 < n) = false := decide_eq_false (by omega)
  have HJ := Lib.hid h
  obtain ⟨q, cap, rfl, _, _⟩ := h
  obtain ⟨kg, ko, kn, kd, kc, kt⟩ := k
  have HZ := Lib.hid hz
  clear hz h0 hn
  obtain ⟨WA, hWA⟩ : ∃ WA, WA = (w.alloc (.cells #[.int .i64 p, .slice q n cap, .int .i64 kg, .int .i64 ko, .int .i64 kn, .int .i64 kd, .int .i64 kc, .int .i64 kt] KT)).alloc (.cells #[.int .i64 0, .slice none 0 0, .int .i64 0, .int .i64 0, .int .i64 0, .int .i64 0, .int .i64 0, .int .i64 0] KT) := ⟨_, rfl⟩
  have HS := Lib.hid (show GS w p (.slice q n cap) ⟨kg, ko, kn, kd, kc, kt⟩ WA from by rw [hWA]; exact GS.ran w p (.slice q n cap) ⟨kg, ko, kn, kd, kc, kt⟩)
  have HW := Lib.hid hWA
  clear hWA
  go_enter Tryz.func61, Tryz.ntmps61
  go_wp2_with fail
  rw [← HW.out]
  refine (HV.out _ (HJ.out.below HS.out.below)).mono ?_
  rintro e w1 ⟨rfl, hb1⟩
  have H1 := Lib.hid (HS.out.turn hb1)
  clear hb1
  obtain ⟨x0, x1, x2, x3, x4, x5, x6, x7⟩ := H1.out.t.cells
  go_wp2_with (go_at_call 75; refine (ptime _ _).mono ?_; rintro e w1 ⟨rfl, rfl⟩; rw [decide_eq_true htm])
  refine (pready p q n cap ⟨kg, ko, kn, kd, kc, kt⟩ _).mono ?_
  rintro e w2 ⟨rfl, hb2⟩
  rw [HZ.out]
  have H2 := Lib.hid (H1.out.turn hb2)
  clear hb2 x0 x1 x2 x3 x4 x5 x6 x7
  obtain ⟨y0, y1, y2, y3, y4, y5, y6, y7⟩ := H2.out.r.cells
  have yf := fun j => has_free H2.out.r j
  go_wp2_with (fail)
  refine bodyPost_ret (v := .tuple #[zT, .int .i64 0, .int .i64 0, .iface 65 (.int .i64 50)]) (by simp [results, Tryz.results61, go_sem, y0, y1, y2, y3, y4, y5, y6, y7]) rfl ⟨rfl, ?_⟩
  repeat (first | (with_reducible exact H2.out.below) | refine below_low ?_ _ _ (by first | (simp; done) | (simp; omega)))
set_option maxHeartbeats 1000000 in
set_option maxRecDepth 100000 in
theorem prun_time (p : Int) (s : Value) (n : Nat) (f : Nat → Jb) (k : Ac) (now : Int) (w : World) (h : Jobs w s n f) (hv : okT p n f k) (hn : 0 ≤ now ∧ now < 1073741824) (h0 : 0 < n) (hg : k.g = 1073741824) :
    Calls Tryz.prog 61 #[tV p s k, .int .i64 now] w fun e w' => e = .returned (.tuple #[zT, .int .i64 0, .int .i64 0, errV 60]) ∧ Below w.heap.size w w' := by
  have HV := Lib.hid (fun w (h : Jobs w s n f) => pvalid p s n f k w h (okT_c hv))
  rw [ok_yes hv, errV_0] at HV
  clear hv
  have htm : 0 ≤ now ∧ now ≤ 1073741824 := by omega
  have hnb : (now == 1073741824) = false := by simp; omega
  have hz : decide (0 < n) = true := decide_eq_true h0
  have HJ := Lib.hid h
  obtain ⟨q, cap, rfl, _, _⟩ := h
  obtain ⟨kg, ko, kn, kd, kc, kt⟩ := k
  have HZ := Lib.hid hz
  dsimp only at hg
  have hgb : (kg == 1073741824) = true := by simpa using hg
  clear hz h0 hn hg
  obtain ⟨WA, hWA⟩ : ∃ WA, WA = (w.alloc (.cells #[.int .i64 p, .slice q n cap, .int .i64 kg, .int .i64 ko, .int .i64 kn, .int .i64 kd, .int .i64 kc, .int .i64 kt] KT)).alloc (.cells #[.int .i64 0, .slice none 0 0, .int .i64 0, .int .i64 0, .int .i64 0, .int .i64 0, .int .i64 0, .int .i64 0] KT) := ⟨_, rfl⟩
  have HS := Lib.hid (show GS w p (.slice q n cap) ⟨kg, ko, kn, kd, kc, kt⟩ WA from by rw [hWA]; exact GS.ran w p (.slice q n cap) ⟨kg, ko, kn, kd, kc, kt⟩)
  have HW := Lib.hid hWA
  clear hWA
  go_enter Tryz.func61, Tryz.ntmps61
  go_wp2_with fail
  rw [← HW.out]
  refine (HV.out _ (HJ.out.below HS.out.below)).mono ?_
  rintro e w1 ⟨rfl, hb1⟩
  have H1 := Lib.hid (HS.out.turn hb1)
  clear hb1
  obtain ⟨x0, x1, x2, x3, x4, x5, x6, x7⟩ := H1.out.t.cells
  go_wp2_with (go_at_call 75; refine (ptime _ _).mono ?_; rintro e w1 ⟨rfl, rfl⟩; rw [decide_eq_true htm])
  refine (pready p q n cap ⟨kg, ko, kn, kd, kc, kt⟩ _).mono ?_
  rintro e w2 ⟨rfl, hb2⟩
  rw [HZ.out]
  have H2 := Lib.hid (H1.out.turn hb2)
  clear hb2 x0 x1 x2 x3 x4 x5 x6 x7
  obtain ⟨x0, x1, x2, x3, x4, x5, x6, x7⟩ := H2.out.t.cells
  obtain ⟨y0, y1, y2, y3, y4, y5, y6, y7⟩ := H2.out.r.cells
  have yf := fun j => has_free H2.out.r j
  go_wp2_with (fail)
  refine bodyPost_ret (v := .tuple #[zT, .int .i64 0, .int .i64 0, .iface 65 (.int .i64 60)]) (by simp [results, Tryz.results61, go_sem, y0, y1, y2, y3, y4, y5, y6, y7]) rfl ⟨rfl, ?_⟩
  repeat (first | (with_reducible exact H2.out.below) | refine below_low ?_ _ _ (by first | (simp; done) | (simp; omega)))
set_option maxHeartbeats 1000000 in
set_option maxRecDepth 100000 in
theorem prun_ok (p : Int) (s : Value) (n : Nat) (f : Nat → Jb) (k : Ac) (now : Int) (w : World) (h : Jobs w s n f) (hv : okT p n f k) (hn : 0 ≤ now ∧ now < 1073741824) (h0 : 0 < n) (hg : k.g < 1073741824) :
    Calls Tryz.prog 61 #[tV p s k, .int .i64 now] w fun e w' => ∃ x, e = .returned (.tuple #[x, .int .i64 (runW (f 0)), .int .i64 (runL (f 0) now), errV 0]) ∧ TaskO w p (runN n (f 0)) (runF f) (runK k (f 0) now) x w' := by
  have HGv := Lib.hid (fun w (h : Jobs w s n f) => pgive_any p s n f k now w h hv hn h0 hg)
  have HV := Lib.hid (fun w (h : Jobs w s n f) => pvalid p s n f k w h (okT_c hv))
  rw [ok_yes hv, errV_0] at HV
  clear hv
  have htm : 0 ≤ now ∧ now ≤ 1073741824 := by omega
  have hnb : (now == 1073741824) = false := by simp; omega
  have hz : decide (0 < n) = true := decide_eq_true h0
  have HJ := Lib.hid h
  obtain ⟨q, cap, rfl, _, _⟩ := h
  obtain ⟨kg, ko, kn, kd, kc, kt⟩ := k
  have HZ := Lib.hid hz
  dsimp only at hg
  have hgb : (kg == 1073741824) = false := by simp; omega
  have v1 : IntKind.i64.wrap (now + 1) = now + 1 := IntWalk.i64_in _ (by omega)
  obtain ⟨E, hE⟩ : ∃ E, E = runK ⟨kg, ko, kn, kd, kc, kt⟩ (f 0) now := ⟨_, rfl⟩
  obtain ⟨N, hN⟩ : ∃ N, N = runN n (f 0) := ⟨_, rfl⟩
  obtain ⟨F, hF⟩ : ∃ F, F = runF f := ⟨_, rfl⟩
  obtain ⟨wh, hwh⟩ : ∃ wh, wh = runW (f 0) := ⟨_, rfl⟩
  obtain ⟨ll, hll⟩ : ∃ ll, ll = runL (f 0) now := ⟨_, rfl⟩
  rw [← hE, ← hN, ← hF, ← hwh, ← hll] at HGv
  rw [← hE, ← hN, ← hF, ← hwh, ← hll]
  obtain ⟨eg, eo, en, ed, ec, et⟩ := E
  clear hz h0 hn hg hE hN hF hwh hll
  obtain ⟨WA, hWA⟩ : ∃ WA, WA = (w.alloc (.cells #[.int .i64 p, .slice q n cap, .int .i64 kg, .int .i64 ko, .int .i64 kn, .int .i64 kd, .int .i64 kc, .int .i64 kt] KT)).alloc (.cells #[.int .i64 0, .slice none 0 0, .int .i64 0, .int .i64 0, .int .i64 0, .int .i64 0, .int .i64 0, .int .i64 0] KT) := ⟨_, rfl⟩
  have HS := Lib.hid (show GS w p (.slice q n cap) ⟨kg, ko, kn, kd, kc, kt⟩ WA from by rw [hWA]; exact GS.ran w p (.slice q n cap) ⟨kg, ko, kn, kd, kc, kt⟩)
  have HW := Lib.hid hWA
  clear hWA
  go_enter Tryz.func61, Tryz.ntmps61
  go_wp2_with fail
  rw [← HW.out]
  refine (HV.out _ (HJ.out.below HS.out.below)).mono ?_
  rintro e w1 ⟨rfl, hb1⟩
  have H1 := Lib.hid (HS.out.turn hb1)
  clear hb1
  obtain ⟨x0, x1, x2, x3, x4, x5, x6, x7⟩ := H1.out.t.cells
  go_wp2_with (go_at_call 75; refine (ptime _ _).mono ?_; rintro e w1 ⟨rfl, rfl⟩; rw [decide_eq_true htm])
  refine (pready p q n cap ⟨kg, ko, kn, kd, kc, kt⟩ _).mono ?_
  rintro e w2 ⟨rfl, hb2⟩
  rw [HZ.out]
  have H2 := Lib.hid (H1.out.turn hb2)
  clear hb2 x0 x1 x2 x3 x4 x5 x6 x7
  obtain ⟨x0, x1, x2, x3, x4, x5, x6, x7⟩ := H2.out.t.cells
  go_wp2_with fail
  refine (HGv.out _ (HJ.out.below H2.out.below)).mono ?_
  rintro e w3 ⟨x, rfl, s3, c3, rfl, ho3, hb3⟩
  have H3 := Lib.hid (H2.out.turn hb3)
  have HO3 := Lib.hid ho3
  have hs2 := H2.out.sz
  clear x0 x1 x2 x3 x4 x5 x6 x7 hb3 ho3
  obtain ⟨x0, x1, x2, x3, x4, x5, x6, x7⟩ := H3.out.t.cells
  have xf := fun j => has_free H3.out.t j
  obtain ⟨y0, y1, y2, y3, y4, y5, y6, y7⟩ := H3.out.r.cells
  have yf := fun j => has_free H3.out.r j
  go_wp2_with fail
  refine bodyPost_ret (v := .tuple #[tV p (.slice s3 N c3) ⟨eg, eo, en, ed, ec, et⟩, .int .i64 wh, .int .i64 ll, .nilIface]) (by simp [results, Tryz.results61, go_sem, y0, y1, y2, y3, y4, y5, y6, y7]) rfl ⟨_, rfl, s3, c3, rfl, ?_, ?_⟩
  · refine own_base2 (B := w2.heap.size) ?_ (by omega)
    repeat (first | (with_reducible exact HO3.out) | refine own_low ?_ _ _ (by first | (simp; done) | (simp; omega)))
  · repeat (first | (with_reducible exact H3.out.below) | refine below_low ?_ _ _ (by first | (simp; done) | (simp; omega)))
/-- Run, every way. -/
theorem prun_any (p : Int) (s : Value) (n : Nat) (f : Nat → Jb) (k : Ac) (now : Int) (w : World) (h : Jobs w s n f) (hc : k.c ≤ 9223372036854775807) :
    Calls Tryz.prog 61 #[tV p s k, .int .i64 now] w fun e w' => ∃ x, e = .returned (.tuple #[x, .int .i64 (if runE p n f k now = 0 then runW (f 0) else 0), .int .i64 (if runE p n f k now = 0 then runL (f 0) now else 0), errV (runE p n f k now)]) ∧
      TaskO w (if runE p n f k now = 0 then p else 0) (if runE p n f k now = 0 then runN n (f 0) else 0) (runF f) (if runE p n f k now = 0 then runK k (f 0) now else kZ) x w' := by
  by_cases hv : okT p n f k
  · by_cases hn : 0 ≤ now ∧ now < 1073741824
    · by_cases h0 : n = 0
      · have hE : runE p n f k now = 50 := by unfold runE; rw [if_neg (fun h => h hv), if_neg (fun h => h hn), if_pos h0]
        rw [hE]
        exact (prun_none p s n f k now w h hv hn h0).mono fun e w' ⟨he, hb⟩ => ⟨_, he, zero_task _ hb⟩
      · by_cases hg : k.g = 1073741824
        · have hE : runE p n f k now = 60 := by unfold runE; rw [if_neg (fun h => h hv), if_neg (fun h => h hn), if_neg h0, if_pos hg]
          rw [hE]
          exact (prun_time p s n f k now w h hv hn (by omega) hg).mono fun e w' ⟨he, hb⟩ => ⟨_, he, zero_task _ hb⟩
        · have hE : runE p n f k now = 0 := by unfold runE; rw [if_neg (fun h => h hv), if_neg (fun h => h hn), if_neg h0, if_neg hg]
          rw [hE]
          have hk := hv.2.2.2.1.1.2
          exact (prun_ok p s n f k now w h hv hn (by omega) (by omega)).mono fun e w' ⟨x, he, hb⟩ => ⟨x, he, hb⟩
    · have hE : runE p n f k now = 1 := by unfold runE; rw [if_neg (fun h => h hv), if_pos hn]
      rw [hE]
      by_cases h1 : now = 1073741824
      · exact (prun_arg2 p s n f k now w h hv h1).mono fun e w' ⟨he, hb⟩ => ⟨_, he, zero_task _ hb⟩
      · exact (prun_arg1 p s n f k now w h hv (by omega)).mono fun e w' ⟨he, hb⟩ => ⟨_, he, zero_task _ hb⟩
  · have hE : runE p n f k now = 270 := if_pos hv
    rw [hE]
    exact (prun_state p s n f k now w h hc hv).mono fun e w' ⟨he, hb⟩ => ⟨_, he, zero_task _ hb⟩
end Go.Proofs.YtedgchafligndaaGreat
/- Slices of tasks, which of them is picked; nothing of the program is walked; no condition but those that each row names. -/
namespace Go.Proofs.YtedgchafligndaaGreat
open Go.RowKit Tsk

namespace Tsk
/-- A task: its priority, its jobs' slice, how many they are, which, its account. -/
structure Tk where
  p : Int
  s : Value
  n : Nat
  f : Nat → Jb
  k : Ac
end Tsk
/-- A slice of m tasks. -/
def Tasks (w : World) (v : Value) (m : Nat) (T : Nat → Tk) : Prop := ∃ p cap, v = .slice p m cap ∧ m ≤ 9223372036854775807 ∧ ∀ j, j < m → ∃ b off, p = some ⟨b, off, none⟩ ∧
  w.cell? ⟨b, off + j * 8, none⟩ = some (.int .i64 (T j).p) ∧ w.cell? ⟨b, off + j * 8 + 1, none⟩ = some (T j).s ∧ w.cell? ⟨b, off + j * 8 + 2, none⟩ = some (.int .i64 (T j).k.g) ∧ w.cell? ⟨b, off + j * 8 + 3, none⟩ = some (.int .i64 (T j).k.o) ∧ w.cell? ⟨b, off + j * 8 + 4, none⟩ = some (.int .i64 (T j).k.n) ∧ w.cell? ⟨b, off + j * 8 + 5, none⟩ = some (.int .i64 (T j).k.d) ∧ w.cell? ⟨b, off + j * 8 + 6, none⟩ = some (.int .i64 (T j).k.c) ∧ w.cell? ⟨b, off + j * 8 + 7, none⟩ = some (.int .i64 (T j).k.t) ∧ Jobs w (T j).s (T j).n (T j).f
theorem Tasks.below {w w' : World} {v : Value} {m : Nat} {T : Nat → Tk} (h : Tasks w v m T) (hb : Below w.heap.size w w') : Tasks w' v m T := by
  obtain ⟨p, cap, e, hm, hc⟩ := h
  refine ⟨p, cap, e, hm, fun j hj => ?_⟩
  obtain ⟨b, off, e2, c0, c1, c2, c3, c4, c5, c6, c7, hJ⟩ := hc j hj
  have hl := cell_lt c0
  have k := fun (o : Nat) => hb.cell (p := ⟨b, o, none⟩) hl
  exact ⟨b, off, e2, (k _).trans c0, (k _).trans c1, (k _).trans c2, (k _).trans c3, (k _).trans c4, (k _).trans c5, (k _).trans c6, (k _).trans c7, hJ.below hb⟩
/-- The place of the first of the most urgent ones that are ready. -/
def pickS (T : Nat → Tk) : Nat → Int
  | 0 => -1
  | i + 1 => if 0 < (T i).n ∧ (pickS T i < 0 ∨ (T i).p < (T (pickS T i).toNat).p) then (i : Nat) else pickS T i
theorem pickS_le (T : Nat → Tk) : ∀ m, -1 ≤ pickS T m ∧ pickS T m < m
  | 0 => by simp [pickS]
  | i + 1 => by
    have := pickS_le T i
    simp only [pickS]
    split <;> omega
end Go.Proofs.YtedgchafligndaaGreat
/- The program's task: Pick; no condition but those that each row names. -/
namespace Go.Proofs.YtedgchafligndaaGreat
open Go.RowKit Tsk

theorem ite_yes {c : Bool} {a b : Prop} (h : c = true) (ha : a) : if c = true then a else b := by rw [if_pos h]; exact ha
theorem ite_no {c : Bool} {a b : Prop} (h : c = false) (hb : b) : if c = true then a else b := by rw [h]; exact hb
/-- A region that draws its order, whose operations read and whose calls leave a world of the class C: one walk in the order of the text. -/
theorem region_class {P : Program} {id : Nat} {Q : Exit → Act → World → Prop} {a : Act} {w : World} {l : List Oper} (C : World → Prop) (hm : P.follows .mixedOrders = true) (hB : Region.lexB .any l.toArray = true) (hC : C { w with drawn := w.drawn + 1 })
    (h : wpQuiet P l.toArray C (fun a' => ∀ w', C w' → Q .normal a' w') l a) : (Code.region id l.toArray true).wp P Q a w :=
  wp_region_quiet hm hB hC (by simpa using h)
end Go.Proofs.YtedgchafligndaaGreat
/- A row of tasks of the call's own; jobs that stay while another row grows; no condition but those that each row names. -/
namespace Go.Proofs.YtedgchafligndaaGreat
open Go.RowKit Tsk

theorem Tryz.infTk : (Tryz.prog.info? KT).map (fun i => (i.zero, i.size, i.bytes)) = some (some (.agg #[.int .i64 0, .slice none 0 0, .int .i64 0, .int .i64 0, .int .i64 0, .int .i64 0, .int .i64 0, .int .i64 0]), 8, 80) := by kernel_rfl
/-- The parts of a task. -/
def prtT (t : Tk) (r : Nat) : Value := if r = 0 then .int .i64 t.p else if r = 1 then t.s else if r = 2 then .int .i64 t.k.g else if r = 3 then .int .i64 t.k.o else if r = 4 then .int .i64 t.k.n else if r = 5 then .int .i64 t.k.d else if r = 6 then .int .i64 t.k.c else .int .i64 t.k.t
def tkL (T : Nat → Tk) (n : Nat) : List Value := lst (fun m => prtT (T (m / 8)) (m % 8)) (n * 8)
theorem tkL_len (T : Nat → Tk) (n : Nat) : (tkL T n).length = n * 8 := lst_len _ _
theorem tkL_congr {T T' : Nat → Tk} {n : Nat} (e : ∀ i, i < n → T i = T' i) : tkL T n = tkL T' n := lst_congr fun i hi => by rw [e _ (by omega)]
theorem tkL_at (T : Nat → Tk) {n j : Nat} (h : j < n) (r : Nat) (hr : r < 8) : (tkL T n)[j * 8 + r]? = some (prtT (T j) r) := by
  unfold tkL
  rw [lst_at (by omega), show (j * 8 + r) / 8 = j by omega, show (j * 8 + r) % 8 = r by omega]
theorem tkL_succ (T : Nat → Tk) (n : Nat) : tkL T (n + 1) = tkL T n ++ [.int .i64 (T n).p, (T n).s, .int .i64 (T n).k.g, .int .i64 (T n).k.o, .int .i64 (T n).k.n, .int .i64 (T n).k.d, .int .i64 (T n).k.c, .int .i64 (T n).k.t] := by
  apply List.ext_getElem?
  intro i
  by_cases hi : i < n * 8
  · rw [List.getElem?_append_left (by rw [tkL_len]; exact hi)]
    unfold tkL
    rw [lst_at (by omega), lst_at hi]
  · by_cases hi2 : i < (n + 1) * 8
    · have e : i = n * 8 + (i - n * 8) := by omega
      rw [e, tkL_at T (by omega) _ (by omega), List.getElem?_append_right (by rw [tkL_len]; omega), tkL_len]
      have hr : i - n * 8 = 0 ∨ i - n * 8 = 1 ∨ i - n * 8 = 2 ∨ i - n * 8 = 3 ∨ i - n * 8 = 4 ∨ i - n * 8 = 5 ∨ i - n * 8 = 6 ∨ i - n * 8 = 7 := by omega
      generalize i - n * 8 = r at *
      rw [Nat.add_sub_cancel_left]
      rcases hr with rfl | rfl | rfl | rfl | rfl | rfl | rfl | rfl <;> rfl
    · rw [List.getElem?_eq_none (by rw [tkL_len]; omega), List.getElem?_eq_none (by rw [List.length_append, tkL_len]; simp; omega)]
/-- A row of one's own that reads as tasks. -/
theorem own_tasks {B : Nat} {w : World} {v : Value} {n : Nat} {T : Nat → Tk} (h : w.ownsRow B KT 8 v n (tkL T n)) (hn : n ≤ 9223372036854775807) (hj : ∀ j, j < n → Jobs w (T j).s (T j).n (T j).f) : Tasks w v n T := by
  obtain ⟨p, cap, rfl, _⟩ := own_small h
  refine ⟨p, cap, rfl, hn, fun j hlt => ?_⟩
  obtain ⟨g, cap', e, _, _⟩ := own_block2 h (by omega)
  cases e
  have c := fun (r : Nat) (hr : r < 8) => (World.ownsRow.cellAt h (j * 8 + r) (by omega)).trans (tkL_at T hlt r hr)
  refine ⟨g, 0, rfl, ?_, ?_, ?_, ?_, ?_, ?_, ?_, ?_, hj j hlt⟩
  · rw [Nat.zero_add]; exact c 0 (by omega)
  · rw [Nat.zero_add]; exact c 1 (by omega)
  · rw [Nat.zero_add]; exact c 2 (by omega)
  · rw [Nat.zero_add]; exact c 3 (by omega)
  · rw [Nat.zero_add]; exact c 4 (by omega)
  · rw [Nat.zero_add]; exact c 5 (by omega)
  · rw [Nat.zero_add]; exact c 6 (by omega)
  · rw [Nat.zero_add]; exact c 7 (by omega)
/-- A slice's elements lie in no such block. -/
def NotIn (v : Value) (row : Option Nat) : Prop := ∀ a n c, v = .slice (some a) n c → 0 < n → row ≠ some a.block
theorem Jobs.grown {w w' : World} {v : Value} {n : Nat} {f : Nat → Jb} {row : Option Nat} (h : Jobs w v n f) (hg : w.grownBy w' row) (hne : NotIn v row) : Jobs w' v n f := by
  obtain ⟨p, cap, e, hm, hc⟩ := h
  refine ⟨p, cap, e, hm, fun j hj => ?_⟩
  obtain ⟨b, off, e2, c0, c1, c2, c3⟩ := hc j hj
  subst e2
  have hlt := cell_lt c0
  have hb : w'.heap[b]? = w.heap[b]? := hg.block b hlt (fun h => hne _ _ _ e (by omega) h.symm)
  have k := fun (o : Nat) => World.cell?_of_block (w := w) (w' := w') (a := ⟨b, o, none⟩) hb
  exact ⟨b, off, rfl, (k _).trans c0, (k _).trans c1, (k _).trans c2, (k _).trans c3⟩
theorem Jobs.lt {w : World} {v : Value} {n : Nat} {f : Nat → Jb} (h : Jobs w v n f) : ∀ a n' c, v = .slice (some a) n' c → 0 < n' → a.block < w.heap.size := by
  intro a n' c e hn
  obtain ⟨p, cap, e1, hm, hc⟩ := h
  rw [e] at e1
  cases e1
  obtain ⟨b, off, e2, c0, _⟩ := hc 0 hn
  cases e2
  exact cell_lt c0
theorem NotIn.old {w : World} {v : Value} {n : Nat} {f : Nat → Jb} (h : Jobs w v n f) {b : Nat} (hb : w.heap.size ≤ b) : NotIn v (some b) := fun a n' c e hn e2 => by
  have := h.lt a n' c e hn
  cases e2
  omega
theorem NotIn.new {B : Nat} {w : World} {v : Value} {n : Nat} {f : Nat → Jb} (h : JobsO B w v n f) {row : Option Nat} (hr : ∀ b, row = some b → b < B) : NotIn v row := fun a n' c e hn e2 => by
  have h1 := hr _ e2
  have h2 := (World.ownsRow.lt h a.block (by
    rw [e]
    obtain ⟨p, cap, e3, _⟩ := own_small h
    rw [e] at e3
    cases e3
    obtain ⟨g, cap', e4, _⟩ := own_block2 h hn
    rw [e] at e4
    cases e4
    rfl)).1
  omega
/-- The same tasks, their jobs elsewhere. -/
def tm (T : Nat → Tk) (sl : Nat → Value) : Nat → Tk := fun j => ⟨(T j).p, sl j, (T j).n, (T j).f, (T j).k⟩
theorem pickS_tm (T : Nat → Tk) (sl : Nat → Value) : ∀ m, pickS (tm T sl) m = pickS T m
  | 0 => rfl
  | m + 1 => by
    have h := pickS_tm T sl m
    show (if 0 < (T m).n ∧ (pickS (tm T sl) m < 0 ∨ (T m).p < (T (pickS (tm T sl) m).toNat).p) then ((m : Nat) : Int) else pickS (tm T sl) m) = _
    rw [h]
    rfl
end Go.Proofs.YtedgchafligndaaGreat
