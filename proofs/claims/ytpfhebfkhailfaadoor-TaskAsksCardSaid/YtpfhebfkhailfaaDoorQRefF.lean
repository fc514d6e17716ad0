/- The document's own task: Wait; no condition but those that each row names. -/
import Derived.Test.YtpfhebfkhailfaaDoorQRefE
namespace Go.Proofs.YtpfhebfkhailfaaDoor
open Go.RowKit Tsk

/-- How far the earliest due time is ahead; is there one? -/
def waitS (f : Nat → Jb) (now : Int) : Nat → Int × Bool
  | 0 => (0, false)
  | n + 1 => if 0 < (f n).d ∧ ((waitS f now n).2 = false ∨ (f n).a + (f n).d - now < (waitS f now n).1) then ((f n).a + (f n).d - now, true) else waitS f now n
def waitV (p : Int) (n : Nat) (f : Nat → Jb) (k : Ac) (now : Int) : Int × Bool := if okT p n f k ∧ 0 ≤ now ∧ now ≤ 1073741824 then waitS f now n else (0, false)
set_option maxHeartbeats 2000000 in
theorem rwait (p : Int) (s : Value) (n : Nat) (f : Nat → Jb) (k : Ac) (now : Int) (w : World) (h : Jobs w s n f) : Calls Tryd.prog 31 #[tV p s k, .int .i64 now] w fun e w' => e = .returned (.tuple #[.int .i64 (waitV p n f k now).1, .bool (waitV p n f k now).2]) ∧ Below w.heap.size w w' := by
  have HJ := Lib.hid h
  obtain ⟨q, cap, rfl, hnl, _⟩ := h
  obtain ⟨WA, hWA⟩ : ∃ WA, WA = w.alloc (.cells #[.int .i64 p, .slice q n cap, .int .i64 k.g, .int .i64 k.o, .int .i64 k.n, .int .i64 k.d, .int .i64 k.c, .int .i64 k.t] KT) := ⟨_, rfl⟩
  have HB := Lib.hid (show Below w.heap.size w WA from by rw [hWA]; exact (Below.refl _ _).alloc (Nat.le_refl _) _)
  have HT := Lib.hid (show HasT WA w.heap.size p (.slice q n cap) k from by rw [hWA]; exact has_new w _ _ rfl)
  have HV := Lib.hid (fun w (h : Jobs w (.slice q n cap) n f) => rvalid p (.slice q n cap) n f k w h)
  have HW := Lib.hid hWA
  obtain ⟨kg, ko, kn, kd, kc, kt⟩ := k
  clear hWA
  by_cases hv : okT p n f ⟨kg, ko, kn, kd, kc, kt⟩
  · rw [ok_yes hv] at HV
    by_cases hn : 0 ≤ now ∧ now ≤ 1073741824
    · have hE : waitV p n f ⟨kg, ko, kn, kd, kc, kt⟩ now = waitS f now n := if_pos ⟨hv, hn⟩
      rw [hE]
      have HOK := Lib.hid hv
      have hn8 := hv.2.1
      clear hv hE
      have HN := Lib.hid (decide_eq_true hn)
      obtain ⟨hn0, hn1⟩ := hn
      go_enter Tryd.func31, Tryd.ntmps31
      go_wp2_with fail
      rw [← HW.out]
      refine (HV.out _ (HJ.out.below HB.out)).mono ?_
      rintro e w1 ⟨rfl, hb1⟩
      have HB1 := Lib.hid (bnext HB.out hb1)
      have HT1 := Lib.hid (HT.out.below hb1)
      clear hb1
      go_wp2_with fail
      refine (rwithin _ _ _).mono ?_
      rintro e w2 ⟨rfl, rfl⟩
      rw [HN.out]
      go_wp2_with fail
      go_loopw [6, 7, 8] (fun bv ov iv wr => ∃ i : Nat, iv = .int .i64 i ∧ i ≤ n ∧ bv = .int .i64 (waitS f now i).1 ∧ ov = .bool (waitS f now i).2 ∧ Hid (Below w1.heap.size w1 wr)) (fun _ _ iv _ => n - (intOf iv).toNat)
      case atStart => exact ⟨0, rfl, Nat.zero_le _, rfl, rfl, Lib.hid (Below.refl _ _)⟩
      case round =>
        obtain ⟨i, rfl, hi, rfl, rfl, HBr⟩ := hrel
        obtain ⟨x0, x1, _⟩ := (HT1.out.below HBr.out).cells
        have HBw := Lib.hid (bnext HB1.out HBr.out)
        by_cases hin : i < n
        · have hin' : (i : Int) < (n : Int) := by omega
          obtain ⟨q', cap', e, _, hcl⟩ := HJ.out.below HBw.out
          cases e
          obtain ⟨b, off, rfl, d0, d1, d2, d3⟩ := hcl i hin
          clear hcl
          obtain ⟨_, _, ⟨a1, a2⟩, b1, b2⟩ := HOK.out.2.2.1 i hin
          have HS := Lib.hid (show waitS f now (i + 1) = if 0 < (f i).d ∧ ((waitS f now i).2 = false ∨ (f i).a + (f i).d - now < (waitS f now i).1) then ((f i).a + (f i).d - now, true) else waitS f now i from rfl)
          generalize f i = jb at *
          obtain ⟨l, c, a, d⟩ := jb
          dsimp only at a1 a2 b1 b2 d0 d1 d2 d3
          obtain ⟨wv, hwv⟩ : ∃ x, x = waitS f now i := ⟨_, rfl⟩
          rw [← hwv] at HS ⊢
          clear hwv
          obtain ⟨bs, ok⟩ := wv
          have HB3 := Lib.hid (bnext HBr.out ((Below.refl wr.heap.size wr).alloc (Nat.le_refl _) (.cells #[.int .i64 l, .int .i64 c, .int .i64 a, .int .i64 d] JT)))
          by_cases z1 : 0 < d
          · cases ok
            · have HS2 := Lib.hid (show waitS f now (i + 1) = (a + d - now, true) from HS.out.trans (if_pos ⟨z1, .inl rfl⟩))
              go_wp2_with fail
              go_roundw
              case rel => exact ⟨i + 1, by go_num, by omega, by rw [HS2.out], by rw [HS2.out], HB3⟩
              case measure => simp [intOf]; omega
            · by_cases z2 : a + d - now < bs
              · have HS2 := Lib.hid (show waitS f now (i + 1) = (a + d - now, true) from HS.out.trans (if_pos ⟨z1, .inr z2⟩))
                go_wp2_with fail
                go_roundw
                case rel => exact ⟨i + 1, by go_num, by omega, by rw [HS2.out], by rw [HS2.out], HB3⟩
                case measure => simp [intOf]; omega
              · have HS2 := Lib.hid (show waitS f now (i + 1) = (bs, true) from HS.out.trans (if_neg (fun h => h.2.elim (fun h => by cases h) z2)))
                have z3 : decide (a + d - now < bs) = false := decide_eq_false z2
                clear z2
                go_wp2_with fail
                go_roundw
                case rel => exact ⟨i + 1, by go_num, by omega, by rw [HS2.out], by rw [HS2.out], HB3⟩
                case measure => simp [intOf]; omega
          · have HS2 := Lib.hid (show waitS f now (i + 1) = (bs, ok) from HS.out.trans (if_neg (fun h => z1 h.1)))
            have z3 : decide (0 < d) = false := decide_eq_false z1
            clear z1
            go_wp2_with fail
            go_roundw
            case rel => exact ⟨i + 1, by go_num, by omega, by rw [HS2.out], by rw [HS2.out], HB3⟩
            case measure => simp [intOf]; omega
        · have hg3 : decide (i < n) = false := decide_eq_false hin
          obtain rfl : i = n := by omega
          clear hin
          go_wp2_with fail
          go_ret2
          exact ⟨rfl, HBw.out⟩
    · have hE : waitV p n f ⟨kg, ko, kn, kd, kc, kt⟩ now = (0, false) := if_neg (fun h => hn h.2)
      rw [hE]
      clear hv hE
      have HN := Lib.hid (decide_eq_false hn)
      clear hn
      go_enter Tryd.func31, Tryd.ntmps31
      go_wp2_with fail
      rw [← HW.out]
      refine (HV.out _ (HJ.out.below HB.out)).mono ?_
      rintro e w1 ⟨rfl, hb1⟩
      have HB1 := Lib.hid (bnext HB.out hb1)
      clear hb1
      go_wp2_with fail
      refine (rwithin _ _ _).mono ?_
      rintro e w2 ⟨rfl, rfl⟩
      rw [HN.out]
      go_wp2_with fail
      go_ret2
      exact ⟨rfl, HB1.out⟩
  · have hE : waitV p n f ⟨kg, ko, kn, kd, kc, kt⟩ now = (0, false) := if_neg (fun h => hv h.1)
    rw [hE]
    rw [ok_no hv] at HV
    clear hv hE
    go_enter Tryd.func31, Tryd.ntmps31
    go_wp2_with fail
    rw [← HW.out]
    refine (HV.out _ (HJ.out.below HB.out)).mono ?_
    rintro e w1 ⟨rfl, hb1⟩
    have HB1 := Lib.hid (bnext HB.out hb1)
    clear hb1
    go_wp2_with fail
    go_ret2
    exact ⟨rfl, HB1.out⟩
end Go.Proofs.YtpfhebfkhailfaaDoor
