/- The program's task: Wait; no condition but those that each row names. -/
import Derived.Test.YtpfhebfkhailfaaDoorUPush
import Derived.Test.YtpfhebfkhailfaaDoorQRefF
namespace Go.Proofs.YtpfhebfkhailfaaDoor
open Go.RowKit Tsk

set_option maxHeartbeats 1000000 in
theorem pwait (p : Int) (s : Value) (n : Nat) (f : Nat → Jb) (k : Ac) (now : Int) (w : World) (h : Jobs w s n f) (hc : k.c ≤ 9223372036854775807) : Calls Tryd.prog 30 #[tV p s k, .int .i64 now] w fun e w' => e = .returned (.tuple #[.int .i64 (waitV p n f k now).1, .bool (waitV p n f k now).2]) ∧ Below w.heap.size w w' := by
  have HJ := Lib.hid h
  have HV := Lib.hid (fun w (h : Jobs w s n f) => pvalid p s n f k w h hc)
  obtain ⟨q, cap, rfl, hn, _⟩ := h
  obtain ⟨kg, ko, kn, kd, kc, kt⟩ := k
  clear hc
  obtain ⟨WA, hWA⟩ : ∃ WA, WA = w.alloc (.cells #[.int .i64 p, .slice q n cap, .int .i64 kg, .int .i64 ko, .int .i64 kn, .int .i64 kd, .int .i64 kc, .int .i64 kt] KT) := ⟨_, rfl⟩
  have HB := Lib.hid (show Below w.heap.size w WA from by rw [hWA]; exact (Below.refl _ _).alloc (Nat.le_refl _) _)
  have HT := Lib.hid (show HasT WA w.heap.size p (.slice q n cap) ⟨kg, ko, kn, kd, kc, kt⟩ from by rw [hWA]; exact has_new w _ _ rfl)
  have HW := Lib.hid hWA
  clear hWA
  by_cases hv : okT p n f ⟨kg, ko, kn, kd, kc, kt⟩
  · rw [ok_yes hv, errV_0] at HV
    have HOK := Lib.hid hv
    have hn8 := hv.2.1
    by_cases hm : 0 ≤ now ∧ now ≤ 1073741824
    · rw [show waitV p n f ⟨kg, ko, kn, kd, kc, kt⟩ now = waitS f now n from if_pos ⟨hv, hm⟩]
      have hm0 := hm.1
      have hm1 := hm.2
      clear hv
      go_enter Tryd.func30, Tryd.ntmps30
      go_wp2_with fail
      rw [← HW.out]
      refine (HV.out _ (HJ.out.below HB.out)).mono ?_
      rintro e w2 ⟨rfl, hb2⟩
      have HB2 := Lib.hid (bnext HB.out hb2)
      have HJ2 := Lib.hid (HJ.out.below (bnext HB.out hb2))
      obtain ⟨x0, x1, x2, x3, x4, x5, x6, x7⟩ := (HT.out.below hb2).cells
      clear hb2
      go_wp2_with (go_at_call 46; refine (ptime _ _).mono ?_; rintro e w1 ⟨rfl, rfl⟩; rw [decide_eq_true hm])
      clear x0 x1 x2 x3 x4 x5 x6 x7 hm
      go_loopw [6, 7, 22] (fun lv bv iv wr => ∃ i : Nat, iv = .int .i64 i ∧ i ≤ n ∧ lv = .int .i64 (waitS f now i).1 ∧ bv = .bool (waitS f now i).2 ∧ Hid (Below w2.heap.size w2 wr)) (fun _ _ iv _ => n - (intOf iv).toNat)
      case atStart => exact ⟨0, rfl, Nat.zero_le _, rfl, rfl, Lib.hid (Below.refl _ _)⟩
      case round =>
        obtain ⟨i, rfl, hi, rfl, rfl, HBr⟩ := hrel
        by_cases hin : i < n
        · have hin' : (i : Int) < (n : Int) := by omega
          obtain ⟨q', cap', e, _, hcl⟩ := HJ2.out.below HBr.out
          cases e
          obtain ⟨b, off, rfl, d0, d1, d2, d3⟩ := hcl i hin
          clear hcl
          have hok := HOK.out.2.2.1 i hin
          have HS := Lib.hid (show waitS f now (i + 1) = if 0 < (f i).d ∧ ((waitS f now i).2 = false ∨ (f i).a + (f i).d - now < (waitS f now i).1) then ((f i).a + (f i).d - now, true) else waitS f now i from rfl)
          generalize waitS f now i = ws at *
          generalize f i = jb at *
          obtain ⟨jl, jc, ja, jd⟩ := jb
          obtain ⟨wl, wb⟩ := ws
          obtain ⟨_, _, ⟨a0, a1⟩, ⟨e0, e1⟩⟩ := (okJ_mk _ _ _ _).1 hok
          dsimp only at HS d0 d1 d2 d3
          have v1 : IntKind.i64.wrap (ja + jd) = ja + jd := IntWalk.i64_in _ (by omega)
          have v2 : IntKind.i64.wrap (ja + jd - now) = ja + jd - now := IntWalk.i64_in _ (by omega)
          have HBa := Lib.hid (HBr.out.alloc HBr.out.size (.cells #[.int .i64 jl, .int .i64 jc, .int .i64 ja, .int .i64 jd] JT))
          clear hok
          by_cases h1 : 0 < jd
          · cases wb with
            | false =>
              have HS2 := Lib.hid (HS.out.trans (if_pos ⟨h1, .inl rfl⟩))
              clear HS
              go_wp2_with fail
              go_roundw
              case rel => exact ⟨i + 1, by go_num, by omega, by rw [HS2.out], by rw [HS2.out], HBa⟩
              case measure => simp [intOf]; omega
            | true =>
              by_cases h2 : ja + jd - now < wl
              · have HS2 := Lib.hid (HS.out.trans (if_pos ⟨h1, .inr h2⟩))
                clear HS
                go_wp2_with fail
                go_roundw
                case rel => exact ⟨i + 1, by go_num, by omega, by rw [HS2.out], by rw [HS2.out], HBa⟩
                case measure => simp [intOf]; omega
              · have HS2 := Lib.hid (HS.out.trans (if_neg (fun h => h.2.elim (fun h => by cases h) h2)))
                have h2b : decide (ja + jd - now < wl) = false := decide_eq_false h2
                clear HS h2
                go_wp2_with fail
                go_roundw
                case rel => exact ⟨i + 1, by go_num, by omega, by rw [HS2.out], by rw [HS2.out], HBa⟩
                case measure => simp [intOf]; omega
          · have HS2 := Lib.hid (HS.out.trans (if_neg (fun h => h1 h.1)))
            have h1b : decide (0 < jd) = false := decide_eq_false h1
            clear HS h1
            go_wp2_with fail
            go_roundw
            case rel => exact ⟨i + 1, by go_num, by omega, by rw [HS2.out], by rw [HS2.out], HBa⟩
            case measure => simp [intOf]; omega
        · have hg3 : decide (i < n) = false := decide_eq_false hin
          obtain rfl : i = n := by omega
          have HB3 := Lib.hid (bnext HB2.out HBr.out)
          clear hin
          go_wp2_with fail
          go_ret2
          exact ⟨rfl, HB3.out⟩
    · rw [show waitV p n f ⟨kg, ko, kn, kd, kc, kt⟩ now = (0, false) from if_neg (fun h => hm h.2)]
      clear hv
      go_enter Tryd.func30, Tryd.ntmps30
      go_wp2_with fail
      rw [← HW.out]
      refine (HV.out _ (HJ.out.below HB.out)).mono ?_
      rintro e w2 ⟨rfl, hb2⟩
      have HB2 := Lib.hid (bnext HB.out hb2)
      clear hb2
      go_wp2_with (go_at_call 46; refine (ptime _ _).mono ?_; rintro e w1 ⟨rfl, rfl⟩; rw [decide_eq_false hm])
      go_ret2
      exact ⟨rfl, HB2.out⟩
  · rw [show waitV p n f ⟨kg, ko, kn, kd, kc, kt⟩ now = (0, false) from if_neg (fun h => hv h.1)]
    rw [ok_no hv, errV_ne (by decide)] at HV
    clear hv
    go_enter Tryd.func30, Tryd.ntmps30
    go_wp2_with fail
    rw [← HW.out]
    refine (HV.out _ (HJ.out.below HB.out)).mono ?_
    rintro e w2 ⟨rfl, hb2⟩
    have HB2 := Lib.hid (bnext HB.out hb2)
    clear hb2
    go_wp2_with fail
    go_ret2
    exact ⟨rfl, HB2.out⟩
end Go.Proofs.YtpfhebfkhailfaaDoor
