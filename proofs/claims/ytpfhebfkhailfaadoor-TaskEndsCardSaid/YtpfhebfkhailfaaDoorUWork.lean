/- The program's task: Work; no condition but those that each row names. -/
import Derived.Test.YtpfhebfkhailfaaDoorUPush
namespace Go.Proofs.YtpfhebfkhailfaaDoor
open Go.RowKit Tsk

set_option maxHeartbeats 1000000 in
theorem pwork (p : Int) (s : Value) (n : Nat) (f : Nat → Jb) (k : Ac) (w : World) (h : Jobs w s n f) (hc : k.c ≤ 9223372036854775807) : Calls Tryd.prog 34 #[tV p s k] w fun e w' => e = .returned (.int .i64 (if okT p n f k then workS f n else 0)) ∧ Below w.heap.size w w' := by
  have HJ := Lib.hid h
  have HV := Lib.hid (fun w (h : Jobs w s n f) => pvalid p s n f k w h hc)
  obtain ⟨q, cap, rfl, hn, _⟩ := h
  obtain ⟨kg, ko, kn, kd, kc, kt⟩ := k
  clear hc
  obtain ⟨WA, hWA⟩ : ∃ WA, WA = w.alloc (.cells #[.int .i64 p, .slice q n cap, .int .i64 kg, .int .i64 ko, .int .i64 kn, .int .i64 kd, .int .i64 kc, .int .i64 kt] KT) := ⟨_, rfl⟩
  have HB := Lib.hid (show Below w.heap.size w WA from by rw [hWA]; exact (Below.refl _ _).alloc (Nat.le_refl _) _)
  have HT := Lib.hid (show HasT WA w.heap.size p (.slice q n cap) ⟨kg, ko, kn, kd, kc, kt⟩ from by rw [hWA]; exact has_new w _ _ rfl)
  have HW := Lib.hid hWA
  clear hWA
  by_cases hv : okT p n f ⟨kg, ko, kn, kd, kc, kt⟩
  · rw [if_pos hv]
    rw [ok_yes hv, errV_0] at HV
    have HOK := Lib.hid hv
    have hn8 := hv.2.1
    clear hv
    go_enter Tryd.func34, Tryd.ntmps34
    go_wp2_with fail
    rw [← HW.out]
    refine (HV.out _ (HJ.out.below HB.out)).mono ?_
    rintro e w2 ⟨rfl, hb2⟩
    have HB2 := Lib.hid (bnext HB.out hb2)
    have HJ2 := Lib.hid (HJ.out.below (bnext HB.out hb2))
    obtain ⟨x0, x1, x2, x3, x4, x5, x6, x7⟩ := (HT.out.below hb2).cells
    clear hb2
    go_wp2_with fail
    clear x0 x1 x2 x3 x4 x5 x6 x7
    go_loopw [3, 12] (fun sv iv wr => ∃ i : Nat, iv = .int .i64 i ∧ i ≤ n ∧ sv = .int .i64 (workS f i) ∧ Hid (Below w2.heap.size w2 wr)) (fun _ iv _ => n - (intOf iv).toNat)
    case atStart => exact ⟨0, rfl, Nat.zero_le _, rfl, Lib.hid (Below.refl _ _)⟩
    case round =>
      obtain ⟨i, rfl, hi, rfl, HBr⟩ := hrel
      by_cases hin : i < n
      · have hin' : (i : Int) < (n : Int) := by omega
        obtain ⟨q', cap', e, _, hcl⟩ := HJ2.out.below HBr.out
        cases e
        obtain ⟨b, off, rfl, d0, d1, d2, d3⟩ := hcl i hin
        clear hcl
        have hok := HOK.out.2.2.1 i hin
        have HL := Lib.hid (fun w => pleft (f i) w hok)
        have hwl := workS_le (f := f) (n := i) (fun j hj => HOK.out.2.2.1 j (by omega))
        have hnd : 0 ≤ need (f i) ∧ need (f i) ≤ 1048576 := by
          obtain ⟨⟨l1, l2⟩, ⟨c1, c2⟩, _⟩ := hok
          unfold need
          split <;> omega
        have HS := Lib.hid (show workS f (i + 1) = workS f i + need (f i) from rfl)
        obtain ⟨hw0, hw1⟩ := hwl
        obtain ⟨hn0, hn1⟩ := hnd
        have hw2 : workS f i ≤ 8388608 := by omega
        clear hok hw1
        generalize workS f i = sm at *
        generalize need (f i) = nd at *
        generalize f i = jb at *
        obtain ⟨jl, jc, ja, jd⟩ := jb
        have HBa := Lib.hid (HBr.out.alloc HBr.out.size (.cells #[.int .i64 jl, .int .i64 jc, .int .i64 ja, .int .i64 jd] JT))
        go_wp2_with fail
        refine (HL.out _).mono ?_
        rintro e w3 ⟨rfl, hb3⟩
        have HB3 := Lib.hid (bnext HBa.out hb3)
        clear hb3
        go_wp2_with fail
        go_roundw
        case rel => exact ⟨i + 1, by go_num, by omega, by rw [HS.out], HB3⟩
        case measure => simp [intOf]; omega
      · have hg3 : decide (i < n) = false := decide_eq_false hin
        obtain rfl : i = n := by omega
        have HB3 := Lib.hid (bnext HB2.out HBr.out)
        clear hin
        go_wp2_with fail
        go_ret
        exact ⟨rfl, HB3.out⟩
  · rw [if_neg hv]
    rw [ok_no hv, errV_ne (by decide)] at HV
    clear hv
    go_enter Tryd.func34, Tryd.ntmps34
    go_wp2_with fail
    rw [← HW.out]
    refine (HV.out _ (HJ.out.below HB.out)).mono ?_
    rintro e w2 ⟨rfl, hb2⟩
    have HB2 := Lib.hid (bnext HB.out hb2)
    clear hb2
    go_wp2_with fail
    go_ret
    exact ⟨rfl, HB2.out⟩
end Go.Proofs.YtpfhebfkhailfaaDoor
