/- The program's task: Run; no condition but those that each row names. -/
import Derived.Test.YtpfhebfkhailfaaDoorUGive
namespace Go.Proofs.YtpfhebfkhailfaaDoor
open Go.RowKit Go.Shelf Tsk

theorem taskO_eq {w w' : World} {p : Int} {n n' : Nat} {f f' : Nat → Jb} {k k' : Ac} {x : Value} (h : TaskO w p n f k x w') (hn : n' = n) (hf : f' = f) (hk : k' = k) : TaskO w p n' f' k' x w' := by rw [hn, hf, hk]; exact h
theorem late_run {j : Jb} {now : Int} (h : okJ j) (he : j.l = 1 ∨ j.c = 1) : lateS j (now + 1) = runL j now := by
  obtain ⟨_, _, _, d0, _⟩ := h
  unfold lateS runL
  by_cases hd : j.d = 0
  · rw [if_pos hd, if_neg (by omega)]
  · rw [if_neg hd]
    by_cases hz : 0 < now + 1 - j.a - j.d
    · rw [if_pos ⟨he, by omega, hz⟩]; omega
    · rw [if_neg (by omega)]; omega
theorem pgive_any (p : Int) (s : Value) (n : Nat) (f : Nat → Jb) (k : Ac) (now : Int) (w : World) (h : Jobs w s n f) (hv : okT p n f k) (hn : 0 ≤ now ∧ now < 1073741824) (h0 : 0 < n) (hg : k.g < 1073741824) :
    Calls Tryd.prog 50 #[tV p s k, .int .i64 (now + 1)] w fun e w' => ∃ x, e = .returned (.tuple #[x, .int .i64 (runW (f 0)), .int .i64 (runL (f 0) now)]) ∧ TaskO w p (runN n (f 0)) (runF f) (runK k (f 0) now) x w' := by
  have hok := hv.2.2.1 0 h0
  by_cases hl : (f 0).l = 1
  · refine (pgive_done p s n f k now w h hv hn h0 hg hl).mono fun e w' ⟨x, he, ht⟩ => ⟨x, ?_, taskO_eq ht ?_ ?_ ?_⟩
    · rw [he, late_run hok (.inl hl), show runW (f 0) = 1 from if_pos hl]
    · unfold runN; rw [if_pos (.inl hl)]
    · unfold runF; rw [if_pos (.inl hl)]
    · rw [late_run hok (.inl hl)]
      unfold endedK runK runL
      refine ac_eq rfl rfl rfl ?_ ?_ ?_
      · rw [if_pos hl, if_pos rfl]
      · rw [if_neg (fun h => h.1 hl), if_pos rfl]
      · dsimp only
        by_cases hq : (f 0).l = 1 ∨ (f 0).c = 1
        · by_cases hz : 0 < (f 0).d ∧ 0 < now + 1 - (f 0).a - (f 0).d
          · rw [if_pos ⟨hq, hz⟩, if_pos (by rw [if_pos ⟨hq, hz⟩]; exact hz.2)]
          · rw [if_neg (fun h => hz h.2), if_neg (by rw [if_neg (fun h => hz h.2)]; omega)]
        · exact absurd (.inl hl) hq
  · by_cases hc : (f 0).c = 1
    · refine (pgive_cut p s n f k now w h hv hn h0 hg hl hc).mono fun e w' ⟨x, he, ht⟩ => ⟨x, ?_, taskO_eq ht ?_ ?_ ?_⟩
      · rw [he, late_run hok (.inr hc), show runW (f 0) = 2 from by unfold runW; rw [if_neg hl, if_pos hc]]
      · unfold runN; rw [if_pos (.inr hc)]
      · unfold runF; rw [if_pos (.inr hc)]
      · rw [late_run hok (.inr hc)]
        unfold endedK runK runL
        refine ac_eq rfl rfl rfl ?_ ?_ ?_
        · rw [if_neg hl, if_neg (by decide)]
        · rw [if_pos ⟨hl, hc⟩, if_neg (by decide)]
        · dsimp only
          by_cases hz : 0 < (f 0).d ∧ 0 < now + 1 - (f 0).a - (f 0).d
          · rw [if_pos ⟨.inr hc, hz⟩, if_pos (by rw [if_pos ⟨.inr hc, hz⟩]; exact hz.2)]
          · rw [if_neg (fun h => hz h.2), if_neg (by rw [if_neg (fun h => hz h.2)]; omega)]
    · have hno : ¬ ((f 0).l = 1 ∨ (f 0).c = 1) := fun h => h.elim hl hc
      refine (pgive_on p s n f k now w h hv hn h0 hg hl hc).mono fun e w' ⟨x, he, ht⟩ => ⟨x, ?_, taskO_eq ht ?_ ?_ ?_⟩
      · rw [he, show runW (f 0) = 0 from by unfold runW; rw [if_neg hl, if_neg hc], show runL (f 0) now = 0 from if_neg (fun h => hno h.1)]
      · unfold runN; rw [if_neg hno]
      · unfold runF; rw [if_neg hno]
      · unfold runK
        refine ac_eq rfl rfl rfl ?_ ?_ ?_
        · rw [if_neg hl]
        · rw [if_neg (fun h => hc h.2)]
        · rw [if_neg (fun h => hno h.1)]
-- Run, way by way
set_option maxHeartbeats 1000000 in
set_option maxRecDepth 100000 in
theorem prun_state (p : Int) (s : Value) (n : Nat) (f : Nat → Jb) (k : Ac) (now : Int) (w : World) (h : Jobs w s n f) (hc : k.c ≤ 9223372036854775807) (hv : ¬ okT p n f k) :
    Calls Tryd.prog 24 #[tV p s k, .int .i64 now] w fun e w' => e = .returned (.tuple #[zT, .int .i64 0, .int .i64 0, errV 270]) ∧ Below w.heap.size w w' := by
  have HV := Lib.hid (fun w (h : Jobs w s n f) => pvalid p s n f k w h hc)
  rw [ok_no hv, errV_ne (by decide)] at HV
  clear hv hc
  have HJ := Lib.hid h
  obtain ⟨q, cap, rfl, _, _⟩ := h
  obtain ⟨kg, ko, kn, kd, kc, kt⟩ := k
  obtain ⟨WA, hWA⟩ : ∃ WA, WA = (w.alloc (.cells #[.int .i64 p, .slice q n cap, .int .i64 kg, .int .i64 ko, .int .i64 kn, .int .i64 kd, .int .i64 kc, .int .i64 kt] KT)).alloc (.cells #[.int .i64 0, .slice none 0 0, .int .i64 0, .int .i64 0, .int .i64 0, .int .i64 0, .int .i64 0, .int .i64 0] KT) := ⟨_, rfl⟩
  have HS := Lib.hid (show GS w p (.slice q n cap) ⟨kg, ko, kn, kd, kc, kt⟩ WA from by rw [hWA]; exact GS.ran w p (.slice q n cap) ⟨kg, ko, kn, kd, kc, kt⟩)
  have HW := Lib.hid hWA
  clear hWA
  go_enter Tryd.func24, Tryd.ntmps24
  go_wp2_with fail
  rw [← HW.out]
  refine (HV.out _ (HJ.out.below HS.out.below)).mono ?_
  rintro e w1 ⟨rfl, hb1⟩
  have H1 := Lib.hid (HS.out.turn hb1)
  clear hb1
  obtain ⟨y0, y1, y2, y3, y4, y5, y6, y7⟩ := H1.out.r.cells
  have yf := fun j => has_free H1.out.r j
  go_wp2_with (fail)
  refine bodyPost_ret (v := .tuple #[zT, .int .i64 0, .int .i64 0, .iface 61 (.int .i64 270)]) (by simp [results, Tryd.results24, go_sem, y0, y1, y2, y3, y4, y5, y6, y7]) rfl ⟨rfl, ?_⟩
  repeat (first | (with_reducible exact H1.out.below) | refine below_low ?_ _ _ (by first | (simp; done) | (simp; omega)))
set_option maxHeartbeats 1000000 in
set_option maxRecDepth 100000 in
theorem prun_arg1 (p : Int) (s : Value) (n : Nat) (f : Nat → Jb) (k : Ac) (now : Int) (w : World) (h : Jobs w s n f) (hv : okT p n f k) (hn : ¬ (0 ≤ now ∧ now ≤ 1073741824)) :
    Calls Tryd.prog 24 #[tV p s k, .int .i64 now] w fun e w' => e = .returned (.tuple #[zT, .int .i64 0, .int .i64 0, errV 1]) ∧ Below w.heap.size w w' := by
  have HV := Lib.hid (fun w (h : Jobs w s n f) => pvalid p s n f k w h (okT_c hv))
  rw [ok_yes hv, errV_0] at HV
  clear hv
  have HJ := Lib.hid h
  obtain ⟨q, cap, rfl, _, _⟩ := h
  obtain ⟨kg, ko, kn, kd, kc, kt⟩ := k
  obtain ⟨WA, hWA⟩ : ∃ WA, WA = (w.alloc (.cells #[.int .i64 p, .slice q n cap, .int .i64 kg, .int .i64 ko, .int .i64 kn, .int .i64 kd, .int .i64 kc, .int .i64 kt] KT)).alloc (.cells #[.int .i64 0, .slice none 0 0, .int .i64 0, .int .i64 0, .int .i64 0, .int .i64 0, .int .i64 0, .int .i64 0] KT) := ⟨_, rfl⟩
  have HS := Lib.hid (show GS w p (.slice q n cap) ⟨kg, ko, kn, kd, kc, kt⟩ WA from by rw [hWA]; exact GS.ran w p (.slice q n cap) ⟨kg, ko, kn, kd, kc, kt⟩)
  have HW := Lib.hid hWA
  clear hWA
  go_enter Tryd.func24, Tryd.ntmps24
  go_wp2_with fail
  rw [← HW.out]
  refine (HV.out _ (HJ.out.below HS.out.below)).mono ?_
  rintro e w1 ⟨rfl, hb1⟩
  have H1 := Lib.hid (HS.out.turn hb1)
  clear hb1
  obtain ⟨y0, y1, y2, y3, y4, y5, y6, y7⟩ := H1.out.r.cells
  have yf := fun j => has_free H1.out.r j
  go_wp2_with (go_at_call 46; refine (ptime _ _).mono ?_; rintro e w1 ⟨rfl, rfl⟩; rw [decide_eq_false hn])
  refine bodyPost_ret (v := .tuple #[zT, .int .i64 0, .int .i64 0, .iface 61 (.int .i64 1)]) (by simp [results, Tryd.results24, go_sem, y0, y1, y2, y3, y4, y5, y6, y7]) rfl ⟨rfl, ?_⟩
  repeat (first | (with_reducible exact H1.out.below) | refine below_low ?_ _ _ (by first | (simp; done) | (simp; omega)))
set_option maxHeartbeats 1000000 in
set_option maxRecDepth 100000 in
theorem prun_arg2 (p : Int) (s : Value) (n : Nat) (f : Nat → Jb) (k : Ac) (now : Int) (w : World) (h : Jobs w s n f) (hv : okT p n f k) (hn : now = 1073741824) :
    Calls Tryd.prog 24 #[tV p s k, .int .i64 now] w fun e w' => e = .returned (.tuple #[zT, .int .i64 0, .int .i64 0, errV 1]) ∧ Below w.heap.size w w' := by
  have HV := Lib.hid (fun w (h : Jobs w s n f) => pvalid p s n f k w h (okT_c hv))
  rw [ok_yes hv, errV_0] at HV
  clear hv
  have htm : 0 ≤ now ∧ now ≤ 1073741824 := by omega
  have hnb : (now == 1073741824) = true := by simpa using hn
  clear hn
  have HJ := Lib.hid h
  obtain ⟨q, cap, rfl, _, _⟩ := h
  obtain ⟨kg, ko, kn, kd, kc, kt⟩ := k
  obtain ⟨WA, hWA⟩ : ∃ WA, WA = (w.alloc (.cells #[.int .i64 p, .slice q n cap, .int .i64 kg, .int .i64 ko, .int .i64 kn, .int .i64 kd, .int .i64 kc, .int .i64 kt] KT)).alloc (.cells #[.int .i64 0, .slice none 0 0, .int .i64 0, .int .i64 0, .int .i64 0, .int .i64 0, .int .i64 0, .int .i64 0] KT) := ⟨_, rfl⟩
  have HS := Lib.hid (show GS w p (.slice q n cap) ⟨kg, ko, kn, kd, kc, kt⟩ WA from by rw [hWA]; exact GS.ran w p (.slice q n cap) ⟨kg, ko, kn, kd, kc, kt⟩)
  have HW := Lib.hid hWA
  clear hWA
  go_enter Tryd.func24, Tryd.ntmps24
  go_wp2_with fail
  rw [← HW.out]
  refine (HV.out _ (HJ.out.below HS.out.below)).mono ?_
  rintro e w1 ⟨rfl, hb1⟩
  have H1 := Lib.hid (HS.out.turn hb1)
  clear hb1
  obtain ⟨y0, y1, y2, y3, y4, y5, y6, y7⟩ := H1.out.r.cells
  have yf := fun j => has_free H1.out.r j
  go_wp2_with (go_at_call 46; refine (ptime _ _).mono ?_; rintro e w1 ⟨rfl, rfl⟩; rw [decide_eq_true htm])
  refine bodyPost_ret (v := .tuple #[zT, .int .i64 0, .int .i64 0, .iface 61 (.int .i64 1)]) (by simp [results, Tryd.results24, go_sem, y0, y1, y2, y3, y4, y5, y6, y7]) rfl ⟨rfl, ?_⟩
  repeat (first | (with_reducible exact H1.out.below) | refine below_low ?_ _ _ (by first | (simp; done) | (simp; omega)))
set_option maxHeartbeats 1000000 in
set_option maxRecDepth 100000 in
theorem prun_none (p : Int) (s : Value) (n : Nat) (f : Nat → Jb) (k : Ac) (now : Int) (w : World) (h : Jobs w s n f) (hv : okT p n f k) (hn : 0 ≤ now ∧ now < 1073741824) (h0 : n = 0) :
    Calls Tryd.prog 24 #[tV p s k, .int .i64 now] w fun e w' => e = .returned (.tuple #[zT, .int .i64 0, .int .i64 0, errV 50]) ∧ Below w.heap.size w w' := by
  have HV := Lib.hid (fun w (h : Jobs w s n f) => pvalid p s n f k w h (okT_c hv))
  rw [ok_yes hv, errV_0] at HV
  clear hv
  have htm : 0 ≤ now ∧ now ≤ 1073741824 := by omega
  have hnb : (now == 1073741824) = false := by simp; omega
  have hz : decide (0 < n) = false := decide_eq_false (by omega)
  have HJ := Lib.hid h
  obtain ⟨q, cap, rfl, _, _⟩ := h
  obtain ⟨kg, ko, kn, kd, kc, kt⟩ := k
  have HZ := Lib.hid hz
  clear hz h0 hn
  obtain ⟨WA, hWA⟩ : ∃ WA, WA = (w.alloc (.cells #[.int .i64 p, .slice q n cap, .int .i64 kg, .int .i64 ko, .int .i64 kn, .int .i64 kd, .int .i64 kc, .int .i64 kt] KT)).alloc (.cells #[.int .i64 0, .slice none 0 0, .int .i64 0, .int .i64 0, .int .i64 0, .int .i64 0, .int .i64 0, .int .i64 0] KT) := ⟨_, rfl⟩
  have HS := Lib.hid (show GS w p (.slice q n cap) ⟨kg, ko, kn, kd, kc, kt⟩ WA from by rw [hWA]; exact GS.ran w p (.slice q n cap) ⟨kg, ko, kn, kd, kc, kt⟩)
  have HW := Lib.hid hWA
  clear hWA
  go_enter Tryd.func24, Tryd.ntmps24
  go_wp2_with fail
  rw [← HW.out]
  refine (HV.out _ (HJ.out.below HS.out.below)).mono ?_
  rintro e w1 ⟨rfl, hb1⟩
  have H1 := Lib.hid (HS.out.turn hb1)
  clear hb1
  obtain ⟨x0, x1, x2, x3, x4, x5, x6, x7⟩ := H1.out.t.cells
  go_wp2_with (go_at_call 46; refine (ptime _ _).mono ?_; rintro e w1 ⟨rfl, rfl⟩; rw [decide_eq_true htm])
  refine (pready p q n cap ⟨kg, ko, kn, kd, kc, kt⟩ _).mono ?_
  rintro e w2 ⟨rfl, hb2⟩
  rw [HZ.out]
  have H2 := Lib.hid (H1.out.turn hb2)
  clear hb2 x0 x1 x2 x3 x4 x5 x6 x7
  obtain ⟨y0, y1, y2, y3, y4, y5, y6, y7⟩ := H2.out.r.cells
  have yf := fun j => has_free H2.out.r j
  go_wp2_with (fail)
  refine bodyPost_ret (v := .tuple #[zT, .int .i64 0, .int .i64 0, .iface 61 (.int .i64 50)]) (by simp [results, Tryd.results24, go_sem, y0, y1, y2, y3, y4, y5, y6, y7]) rfl ⟨rfl, ?_⟩
  repeat (first | (with_reducible exact H2.out.below) | refine below_low ?_ _ _ (by first | (simp; done) | (simp; omega)))
set_option maxHeartbeats 1000000 in
set_option maxRecDepth 100000 in
theorem prun_time (p : Int) (s : Value) (n : Nat) (f : Nat → Jb) (k : Ac) (now : Int) (w : World) (h : Jobs w s n f) (hv : okT p n f k) (hn : 0 ≤ now ∧ now < 1073741824) (h0 : 0 < n) (hg : k.g = 1073741824) :
    Calls Tryd.prog 24 #[tV p s k, .int .i64 now] w fun e w' => e = .returned (.tuple #[zT, .int .i64 0, .int .i64 0, errV 60]) ∧ Below w.heap.size w w' := by
  have HV := Lib.hid (fun w (h : Jobs w s n f) => pvalid p s n f k w h (okT_c hv))
  rw [ok_yes hv, errV_0] at HV
  clear hv
  have htm : 0 ≤ now ∧ now ≤ 1073741824 := by omega
  have hnb : (now == 1073741824) = false := by simp; omega
  have hz : decide (0 < n) = true := decide_eq_true h0
  have HJ := Lib.hid h
  obtain ⟨q, cap, rfl, _, _⟩ := h
  obtain ⟨kg, ko, kn, kd, kc, kt⟩ := k
  have HZ := Lib.hid hz
  dsimp only at hg
  have hgb : (kg == 1073741824) = true := by simpa using hg
  clear hz h0 hn hg
  obtain ⟨WA, hWA⟩ : ∃ WA, WA = (w.alloc (.cells #[.int .i64 p, .slice q n cap, .int .i64 kg, .int .i64 ko, .int .i64 kn, .int .i64 kd, .int .i64 kc, .int .i64 kt] KT)).alloc (.cells #[.int .i64 0, .slice none 0 0, .int .i64 0, .int .i64 0, .int .i64 0, .int .i64 0, .int .i64 0, .int .i64 0] KT) := ⟨_, rfl⟩
  have HS := Lib.hid (show GS w p (.slice q n cap) ⟨kg, ko, kn, kd, kc, kt⟩ WA from by rw [hWA]; exact GS.ran w p (.slice q n cap) ⟨kg, ko, kn, kd, kc, kt⟩)
  have HW := Lib.hid hWA
  clear hWA
  go_enter Tryd.func24, Tryd.ntmps24
  go_wp2_with fail
  rw [← HW.out]
  refine (HV.out _ (HJ.out.below HS.out.below)).mono ?_
  rintro e w1 ⟨rfl, hb1⟩
  have H1 := Lib.hid (HS.out.turn hb1)
  clear hb1
  obtain ⟨x0, x1, x2, x3, x4, x5, x6, x7⟩ := H1.out.t.cells
  go_wp2_with (go_at_call 46; refine (ptime _ _).mono ?_; rintro e w1 ⟨rfl, rfl⟩; rw [decide_eq_true htm])
  refine (pready p q n cap ⟨kg, ko, kn, kd, kc, kt⟩ _).mono ?_
  rintro e w2 ⟨rfl, hb2⟩
  rw [HZ.out]
  have H2 := Lib.hid (H1.out.turn hb2)
  clear hb2 x0 x1 x2 x3 x4 x5 x6 x7
  obtain ⟨x0, x1, x2, x3, x4, x5, x6, x7⟩ := H2.out.t.cells
  obtain ⟨y0, y1, y2, y3, y4, y5, y6, y7⟩ := H2.out.r.cells
  have yf := fun j => has_free H2.out.r j
  go_wp2_with (fail)
  refine bodyPost_ret (v := .tuple #[zT, .int .i64 0, .int .i64 0, .iface 61 (.int .i64 60)]) (by simp [results, Tryd.results24, go_sem, y0, y1, y2, y3, y4, y5, y6, y7]) rfl ⟨rfl, ?_⟩
  repeat (first | (with_reducible exact H2.out.below) | refine below_low ?_ _ _ (by first | (simp; done) | (simp; omega)))
set_option maxHeartbeats 1000000 in
set_option maxRecDepth 100000 in
theorem prun_ok (p : Int) (s : Value) (n : Nat) (f : Nat → Jb) (k : Ac) (now : Int) (w : World) (h : Jobs w s n f) (hv : okT p n f k) (hn : 0 ≤ now ∧ now < 1073741824) (h0 : 0 < n) (hg : k.g < 1073741824) :
    Calls Tryd.prog 24 #[tV p s k, .int .i64 now] w fun e w' => ∃ x, e = .returned (.tuple #[x, .int .i64 (runW (f 0)), .int .i64 (runL (f 0) now), errV 0]) ∧ TaskO w p (runN n (f 0)) (runF f) (runK k (f 0) now) x w' := by
  have HGv := Lib.hid (fun w (h : Jobs w s n f) => pgive_any p s n f k now w h hv hn h0 hg)
  have HV := Lib.hid (fun w (h : Jobs w s n f) => pvalid p s n f k w h (okT_c hv))
  rw [ok_yes hv, errV_0] at HV
  clear hv
  have htm : 0 ≤ now ∧ now ≤ 1073741824 := by omega
  have hnb : (now == 1073741824) = false := by simp; omega
  have hz : decide (0 < n) = true := decide_eq_true h0
  have HJ := Lib.hid h
  obtain ⟨q, cap, rfl, _, _⟩ := h
  obtain ⟨kg, ko, kn, kd, kc, kt⟩ := k
  have HZ := Lib.hid hz
  dsimp only at hg
  have hgb : (kg == 1073741824) = false := by simp; omega
  have v1 : IntKind.i64.wrap (now + 1) = now + 1 := IntWalk.i64_in _ (by omega)
  obtain ⟨E, hE⟩ : ∃ E, E = runK ⟨kg, ko, kn, kd, kc, kt⟩ (f 0) now := ⟨_, rfl⟩
  obtain ⟨N, hN⟩ : ∃ N, N = runN n (f 0) := ⟨_, rfl⟩
  obtain ⟨F, hF⟩ : ∃ F, F = runF f := ⟨_, rfl⟩
  obtain ⟨wh, hwh⟩ : ∃ wh, wh = runW (f 0) := ⟨_, rfl⟩
  obtain ⟨ll, hll⟩ : ∃ ll, ll = runL (f 0) now := ⟨_, rfl⟩
  rw [← hE, ← hN, ← hF, ← hwh, ← hll] at HGv
  rw [← hE, ← hN, ← hF, ← hwh, ← hll]
  obtain ⟨eg, eo, en, ed, ec, et⟩ := E
  clear hz h0 hn hg hE hN hF hwh hll
  obtain ⟨WA, hWA⟩ : ∃ WA, WA = (w.alloc (.cells #[.int .i64 p, .slice q n cap, .int .i64 kg, .int .i64 ko, .int .i64 kn, .int .i64 kd, .int .i64 kc, .int .i64 kt] KT)).alloc (.cells #[.int .i64 0, .slice none 0 0, .int .i64 0, .int .i64 0, .int .i64 0, .int .i64 0, .int .i64 0, .int .i64 0] KT) := ⟨_, rfl⟩
  have HS := Lib.hid (show GS w p (.slice q n cap) ⟨kg, ko, kn, kd, kc, kt⟩ WA from by rw [hWA]; exact GS.ran w p (.slice q n cap) ⟨kg, ko, kn, kd, kc, kt⟩)
  have HW := Lib.hid hWA
  clear hWA
  go_enter Tryd.func24, Tryd.ntmps24
  go_wp2_with fail
  rw [← HW.out]
  refine (HV.out _ (HJ.out.below HS.out.below)).mono ?_
  rintro e w1 ⟨rfl, hb1⟩
  have H1 := Lib.hid (HS.out.turn hb1)
  clear hb1
  obtain ⟨x0, x1, x2, x3, x4, x5, x6, x7⟩ := H1.out.t.cells
  go_wp2_with (go_at_call 46; refine (ptime _ _).mono ?_; rintro e w1 ⟨rfl, rfl⟩; rw [decide_eq_true htm])
  refine (pready p q n cap ⟨kg, ko, kn, kd, kc, kt⟩ _).mono ?_
  rintro e w2 ⟨rfl, hb2⟩
  rw [HZ.out]
  have H2 := Lib.hid (H1.out.turn hb2)
  clear hb2 x0 x1 x2 x3 x4 x5 x6 x7
  obtain ⟨x0, x1, x2, x3, x4, x5, x6, x7⟩ := H2.out.t.cells
  go_wp2_with fail
  refine (HGv.out _ (HJ.out.below H2.out.below)).mono ?_
  rintro e w3 ⟨x, rfl, s3, c3, rfl, ho3, hb3⟩
  have H3 := Lib.hid (H2.out.turn hb3)
  have HO3 := Lib.hid ho3
  have hs2 := H2.out.sz
  clear x0 x1 x2 x3 x4 x5 x6 x7 hb3 ho3
  obtain ⟨x0, x1, x2, x3, x4, x5, x6, x7⟩ := H3.out.t.cells
  have xf := fun j => has_free H3.out.t j
  obtain ⟨y0, y1, y2, y3, y4, y5, y6, y7⟩ := H3.out.r.cells
  have yf := fun j => has_free H3.out.r j
  go_wp2_with fail
  refine bodyPost_ret (v := .tuple #[tV p (.slice s3 N c3) ⟨eg, eo, en, ed, ec, et⟩, .int .i64 wh, .int .i64 ll, .nilIface]) (by simp [results, Tryd.results24, go_sem, y0, y1, y2, y3, y4, y5, y6, y7]) rfl ⟨_, rfl, s3, c3, rfl, ?_, ?_⟩
  · refine own_base2 (B := w2.heap.size) ?_ (by omega)
    repeat (first | (with_reducible exact HO3.out) | refine own_low ?_ _ _ (by first | (simp; done) | (simp; omega)))
  · repeat (first | (with_reducible exact H3.out.below) | refine below_low ?_ _ _ (by first | (simp; done) | (simp; omega)))
/-- Run, every way. -/
theorem prun_any (p : Int) (s : Value) (n : Nat) (f : Nat → Jb) (k : Ac) (now : Int) (w : World) (h : Jobs w s n f) (hc : k.c ≤ 9223372036854775807) :
    Calls Tryd.prog 24 #[tV p s k, .int .i64 now] w fun e w' => ∃ x, e = .returned (.tuple #[x, .int .i64 (if runE p n f k now = 0 then runW (f 0) else 0), .int .i64 (if runE p n f k now = 0 then runL (f 0) now else 0), errV (runE p n f k now)]) ∧
      TaskO w (if runE p n f k now = 0 then p else 0) (if runE p n f k now = 0 then runN n (f 0) else 0) (runF f) (if runE p n f k now = 0 then runK k (f 0) now else kZ) x w' := by
  by_cases hv : okT p n f k
  · by_cases hn : 0 ≤ now ∧ now < 1073741824
    · by_cases h0 : n = 0
      · have hE : runE p n f k now = 50 := by unfold runE; rw [if_neg (fun h => h hv), if_neg (fun h => h hn), if_pos h0]
        rw [hE]
        exact (prun_none p s n f k now w h hv hn h0).mono fun e w' ⟨he, hb⟩ => ⟨_, he, zero_task _ hb⟩
      · by_cases hg : k.g = 1073741824
        · have hE : runE p n f k now = 60 := by unfold runE; rw [if_neg (fun h => h hv), if_neg (fun h => h hn), if_neg h0, if_pos hg]
          rw [hE]
          exact (prun_time p s n f k now w h hv hn (by omega) hg).mono fun e w' ⟨he, hb⟩ => ⟨_, he, zero_task _ hb⟩
        · have hE : runE p n f k now = 0 := by unfold runE; rw [if_neg (fun h => h hv), if_neg (fun h => h hn), if_neg h0, if_neg hg]
          rw [hE]
          have hk := hv.2.2.2.1.1.2
          exact (prun_ok p s n f k now w h hv hn (by omega) (by omega)).mono fun e w' ⟨x, he, hb⟩ => ⟨x, he, hb⟩
    · have hE : runE p n f k now = 1 := by unfold runE; rw [if_neg (fun h => h hv), if_pos hn]
      rw [hE]
      by_cases h1 : now = 1073741824
      · exact (prun_arg2 p s n f k now w h hv h1).mono fun e w' ⟨he, hb⟩ => ⟨_, he, zero_task _ hb⟩
      · exact (prun_arg1 p s n f k now w h hv (by omega)).mono fun e w' ⟨he, hb⟩ => ⟨_, he, zero_task _ hb⟩
  · have hE : runE p n f k now = 270 := if_pos hv
    rw [hE]
    exact (prun_state p s n f k now w h hc hv).mono fun e w' ⟨he, hb⟩ => ⟨_, he, zero_task _ hb⟩
end Go.Proofs.YtpfhebfkhailfaaDoor
