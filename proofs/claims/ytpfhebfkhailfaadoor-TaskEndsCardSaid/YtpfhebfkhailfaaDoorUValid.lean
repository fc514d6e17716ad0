/- The program's task: Valid; no condition but those that each row names. -/
import Derived.Test.YtpfhebfkhailfaaDoorUVal
namespace Go.Proofs.YtpfhebfkhailfaaDoor
open Go.RowKit Tsk

theorem ret_err {a b : Int} (h : a = b) : Ending.returned (errV a) = .returned (errV b) := by rw [h]
set_option maxHeartbeats 1000000 in
theorem pvalid (p : Int) (s : Value) (n : Nat) (f : Nat → Jb) (k : Ac) (w : World) (h : Jobs w s n f) (hc : k.c ≤ 9223372036854775807) : Calls Tryd.prog 14 #[tV p s k] w fun e w' => e = .returned (errV (validE p n f k)) ∧ Below w.heap.size w w' := by
  have HJ := Lib.hid h
  have HK := Lib.hid (fun w => pacc k w hc)
  obtain ⟨q, cap, rfl, hn, _⟩ := h
  obtain ⟨kg, ko, kn, kd, kc, kt⟩ := k
  clear hc
  obtain ⟨WA, hWA⟩ : ∃ WA, WA = w.alloc (.cells #[.int .i64 p, .slice q n cap, .int .i64 kg, .int .i64 ko, .int .i64 kn, .int .i64 kd, .int .i64 kc, .int .i64 kt] KT) := ⟨_, rfl⟩
  have HB := Lib.hid (show Below w.heap.size w WA from by rw [hWA]; exact (Below.refl _ _).alloc (Nat.le_refl _) _)
  have HT := Lib.hid (show HasT WA w.heap.size p (.slice q n cap) ⟨kg, ko, kn, kd, kc, kt⟩ from by rw [hWA]; exact has_new w _ _ rfl)
  have HW := Lib.hid hWA
  have hsz : w.heap.size < WA.heap.size := by rw [hWA]; simp
  clear hWA
  by_cases hp : 0 ≤ p ∧ p ≤ 31
  · by_cases hn8 : n ≤ 8
    · have hn8' : (n : Int) ≤ 8 := by omega
      have hn8b : decide ((8 : Int) < (n : Int)) = false := decide_eq_false (by omega)
      have hn8c : decide (8 < n) = false := decide_eq_false (by omega)
      by_cases ha : okA ⟨kg, ko, kn, kd, kc, kt⟩
      · rw [decide_eq_true ha] at HK
        go_enter Tryd.func14, Tryd.ntmps14
        go_wp2_with (go_at_call 36; refine (pprio _ _).mono ?_; rintro e w1 ⟨rfl, rfl⟩; rw [decide_eq_true hp])
        rw [← HW.out]
        obtain ⟨x0, x1, x2, x3, x4, x5, x6, x7⟩ := HT.out.cells
        go_wp2_with fail
        refine (HK.out WA).mono ?_
        rintro e w2 ⟨rfl, hb2⟩
        have HB2 := Lib.hid (bnext HB.out hb2)
        have HT2 := Lib.hid (HT.out.below hb2)
        have HJ2 := Lib.hid (HJ.out.below (bnext HB.out hb2))
        clear hb2 x0 x1 x2 x3 x4 x5 x6 x7
        obtain ⟨x0, x1, x2, x3, x4, x5, x6, x7⟩ := HT2.out.cells
        go_wp2_with fail
        clear x0 x1 x2 x3 x4 x5 x6 x7
        go_loopw [25] (fun iv wr => ∃ i : Nat, iv = .int .i64 i ∧ i ≤ n ∧ Hid (∀ j, j < i → okJ (f j)) ∧ Hid (Below w2.heap.size w2 wr)) (fun iv _ => n - (intOf iv).toNat)
        case atStart => exact ⟨0, rfl, Nat.zero_le _, Lib.hid (fun j hj => by omega), Lib.hid (Below.refl _ _)⟩
        case round =>
          obtain ⟨i, rfl, hi, HO, HBr⟩ := hrel
          by_cases hin : i < n
          · have hin' : (i : Int) < (n : Int) := by omega
            obtain ⟨q', cap', e, _, hcl⟩ := HJ2.out.below HBr.out
            cases e
            obtain ⟨b, off, rfl, d0, d1, d2, d3⟩ := hcl i hin
            clear hcl
            have HRJ := Lib.hid (pjob (f i))
            by_cases hok : okJ (f i)
            · have HO2 := Lib.hid (show ∀ j, j < i + 1 → okJ (f j) from fun j hj => by
                rcases Nat.lt_succ_iff_lt_or_eq.1 hj with h | h
                · exact HO.out j h
                · rw [h]; exact hok)
              rw [decide_eq_true hok] at HRJ
              generalize f i = jb at *
              obtain ⟨jl, jc, ja, jd⟩ := jb
              clear hok
              have HBa := Lib.hid (HBr.out.alloc HBr.out.size (.cells #[.int .i64 jl, .int .i64 jc, .int .i64 ja, .int .i64 jd] JT))
              go_wp2_with fail
              refine (HRJ.out _).mono ?_
              rintro e w3 ⟨rfl, hb3⟩
              have HB3 := Lib.hid (bnext HBa.out hb3)
              clear hb3
              go_wp2_with fail
              go_roundw
              case rel => exact ⟨i + 1, by go_num, by omega, HO2, HB3⟩
              case measure => simp [intOf]; omega
            · have hE := ok_no (p := p) (n := n) (f := f) (k := ⟨kg, ko, kn, kd, kc, kt⟩) (fun h => hok (h.2.2.1 i hin))
              have HE := Lib.hid hE
              rw [decide_eq_false hok] at HRJ
              generalize f i = jb at *
              obtain ⟨jl, jc, ja, jd⟩ := jb
              clear hok hE
              have HBa := Lib.hid (HBr.out.alloc HBr.out.size (.cells #[.int .i64 jl, .int .i64 jc, .int .i64 ja, .int .i64 jd] JT))
              go_wp2_with fail
              refine (HRJ.out _).mono ?_
              rintro e w3 ⟨rfl, hb3⟩
              have HB3 := Lib.hid (bnext HB2.out (bnext HBa.out hb3))
              clear hb3
              go_wp2_with fail
              go_ret
              exact ⟨ret_err HE.out.symm, HB3.out⟩
          · have hg3 : decide (i < n) = false := decide_eq_false hin
            have HV := Lib.hid (show validE p n f ⟨kg, ko, kn, kd, kc, kt⟩ = 0 from if_pos ⟨hp, hn8, fun j hj => HO.out j (by omega), ha⟩)
            have HB3 := Lib.hid (bnext HB2.out HBr.out)
            clear hin
            go_wp2_with fail
            go_ret
            exact ⟨ret_err HV.out.symm, HB3.out⟩
      · have HV := Lib.hid (show validE p n f ⟨kg, ko, kn, kd, kc, kt⟩ = 270 from if_neg fun h => ha h.2.2.2)
        rw [decide_eq_false ha] at HK
        clear ha
        go_enter Tryd.func14, Tryd.ntmps14
        go_wp2_with (go_at_call 36; refine (pprio _ _).mono ?_; rintro e w1 ⟨rfl, rfl⟩; rw [decide_eq_true hp])
        rw [← HW.out]
        obtain ⟨x0, x1, x2, x3, x4, x5, x6, x7⟩ := HT.out.cells
        go_wp2_with fail
        refine (HK.out WA).mono ?_
        rintro e w2 ⟨rfl, hb2⟩
        have HB2 := Lib.hid (bnext HB.out hb2)
        clear hb2 x0 x1 x2 x3 x4 x5 x6 x7
        go_wp2_with fail
        go_ret
        exact ⟨ret_err HV.out.symm, HB2.out⟩
    · have hE := ok_no (p := p) (n := n) (f := f) (k := ⟨kg, ko, kn, kd, kc, kt⟩) (fun h => hn8 h.2.1)
      rw [hE]
      have hn8' : (8 : Int) < (n : Int) := by omega
      clear hE hn8
      go_enter Tryd.func14, Tryd.ntmps14
      go_wp2_with (go_at_call 36; refine (pprio _ _).mono ?_; rintro e w1 ⟨rfl, rfl⟩; rw [decide_eq_true hp])
      rw [← HW.out]
      go_ret
      exact ⟨rfl, HB.out⟩
  · have hE := ok_no (p := p) (n := n) (f := f) (k := ⟨kg, ko, kn, kd, kc, kt⟩) (fun h => hp h.1)
    rw [hE]
    clear hE
    go_enter Tryd.func14, Tryd.ntmps14
    go_wp2_with (go_at_call 36; refine (pprio _ _).mono ?_; rintro e w1 ⟨rfl, rfl⟩; rw [decide_eq_false hp])
    rw [← HW.out]
    go_ret
    exact ⟨rfl, HB.out⟩
end Go.Proofs.YtpfhebfkhailfaaDoor
