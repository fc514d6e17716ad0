/- The document's own task: Work, Wait; no condition but those that each row names. -/
import Derived.Test.YtpfhebfkhailfaaDoorQRefA
namespace Go.Proofs.YtpfhebfkhailfaaDoor
open Go.RowKit Tsk

/-- How many ticks a job can still be given. -/
def need (j : Jb) : Int := if 0 < j.c ∧ j.c < j.l then j.c else j.l
def workS (f : Nat → Jb) : Nat → Int
  | 0 => 0
  | n + 1 => workS f n + need (f n)
theorem workS_le {f : Nat → Jb} : ∀ {n : Nat}, (∀ i, i < n → okJ (f i)) → 0 ≤ workS f n ∧ workS f n ≤ n * 1048576
  | 0, _ => by simp [workS]
  | n + 1, h => by
    have ih := workS_le (f := f) (n := n) (fun i hi => h i (by omega))
    obtain ⟨⟨l1, l2⟩, _⟩ := h n (by omega)
    have h2 : 0 ≤ need (f n) ∧ need (f n) ≤ 1048576 := by unfold need; split <;> omega
    simp only [workS]
    omega
set_option maxHeartbeats 2000000 in
theorem rwork (p : Int) (s : Value) (n : Nat) (f : Nat → Jb) (k : Ac) (w : World) (h : Jobs w s n f) : Calls Tryd.prog 35 #[tV p s k] w fun e w' => e = .returned (.int .i64 (if okT p n f k then workS f n else 0)) ∧ Below w.heap.size w w' := by
  have HJ := Lib.hid h
  obtain ⟨q, cap, rfl, hnl, _⟩ := h
  obtain ⟨WA, hWA⟩ : ∃ WA, WA = w.alloc (.cells #[.int .i64 p, .slice q n cap, .int .i64 k.g, .int .i64 k.o, .int .i64 k.n, .int .i64 k.d, .int .i64 k.c, .int .i64 k.t] KT) := ⟨_, rfl⟩
  have HB := Lib.hid (show Below w.heap.size w WA from by rw [hWA]; exact (Below.refl _ _).alloc (Nat.le_refl _) _)
  have HT := Lib.hid (show HasT WA w.heap.size p (.slice q n cap) k from by rw [hWA]; exact has_new w _ _ rfl)
  have HV := Lib.hid (fun w (h : Jobs w (.slice q n cap) n f) => rvalid p (.slice q n cap) n f k w h)
  have HW := Lib.hid hWA
  obtain ⟨kg, ko, kn, kd, kc, kt⟩ := k
  clear hWA
  by_cases hv : okT p n f ⟨kg, ko, kn, kd, kc, kt⟩
  · rw [if_pos hv]
    rw [ok_yes hv] at HV
    have HOK := Lib.hid hv
    have hn8 := hv.2.1
    clear hv
    go_enter Tryd.func35, Tryd.ntmps35
    go_wp2_with fail
    rw [← HW.out]
    go_loopw [3, 4] (fun sv iv wr => ∃ i : Nat, iv = .int .i64 i ∧ i ≤ n ∧ sv = .int .i64 (workS f i) ∧ Hid (Below WA.heap.size WA wr)) (fun _ iv _ => n - (intOf iv).toNat)
    case atStart => exact ⟨0, rfl, Nat.zero_le _, rfl, Lib.hid (Below.refl _ _)⟩
    case round =>
      obtain ⟨i, rfl, hi, rfl, HBr⟩ := hrel
      obtain ⟨x0, x1, x2, x3, x4, x5, x6, x7⟩ := (HT.out.below HBr.out).cells
      have HBw := Lib.hid (bnext HB.out HBr.out)
      by_cases hin : i < n
      · have hin' : (i : Int) < (n : Int) := by omega
        have HVr := Lib.hid (HV.out wr (HJ.out.below HBw.out))
        have HJJ := Lib.hid (fun w2 (hb : Below wr.heap.size wr w2) => ((HJ.out.below HBw.out).below hb))
        have hwl := workS_le (f := f) (n := i) (fun j hj => HOK.out.2.2.1 j (by omega))
        obtain ⟨⟨l1, l2⟩, ⟨c1, c2⟩, _, _⟩ := HOK.out.2.2.1 i hin
        have HS := Lib.hid (show workS f (i + 1) = workS f i + need (f i) from rfl)
        obtain ⟨hw0, hw1⟩ := hwl
        have hw2 : workS f i ≤ 8388608 := by omega
        generalize workS f i = sm at *
        go_wp2_with fail
        refine HVr.out.mono ?_
        rintro e w2 ⟨rfl, hb2⟩
        have HB2 := Lib.hid (bnext HBr.out hb2)
        obtain ⟨q', cap', e, _, hcl⟩ := HJJ.out w2 hb2
        cases e
        obtain ⟨b, off, rfl, d0, d1, d2, d3⟩ := hcl i hin
        clear hcl x0 x1 x2 x3 x4 x5 x6 x7 HVr HJJ
        obtain ⟨x0, x1, x2, x3, x4, x5, x6, x7⟩ := (HT.out.below HB2.out).cells
        clear hb2
        generalize f i = jb at *
        obtain ⟨l, c, a, d⟩ := jb
        dsimp only at l1 l2 c1 c2 d0 d1 d2 d3
        by_cases h1 : 0 < c ∧ c < l
        · have hnd : need ⟨l, c, a, d⟩ = c := if_pos h1
          rw [hnd] at HS
          obtain ⟨h1, h2⟩ := h1
          have HB3 := Lib.hid (bnext HB2.out ((Below.refl w2.heap.size w2).alloc (Nat.le_refl _) (.cells #[.int .i64 l, .int .i64 c, .int .i64 a, .int .i64 d] JT)))
          clear hnd
          go_wp2_with fail
          go_roundw
          case rel => exact ⟨i + 1, by go_num, by omega, by rw [HS.out], HB3⟩
          case measure => simp [intOf]; omega
        · have hnd : need ⟨l, c, a, d⟩ = l := if_neg h1
          rw [hnd] at HS
          have HB3 := Lib.hid (bnext HB2.out ((Below.refl w2.heap.size w2).alloc (Nat.le_refl _) (.cells #[.int .i64 l, .int .i64 c, .int .i64 a, .int .i64 d] JT)))
          clear hnd
          by_cases h3 : 0 < c
          · have h4 : decide (c < l) = false := decide_eq_false (fun h => h1 ⟨h3, h⟩)
            clear h1
            go_wp2_with fail
            go_roundw
            case rel => exact ⟨i + 1, by go_num, by omega, by rw [HS.out], HB3⟩
            case measure => simp [intOf]; omega
          · have h4 : decide (0 < c) = false := decide_eq_false h3
            clear h1
            go_wp2_with fail
            go_roundw
            case rel => exact ⟨i + 1, by go_num, by omega, by rw [HS.out], HB3⟩
            case measure => simp [intOf]; omega
      · have hg3 : decide (i < n) = false := decide_eq_false hin
        obtain rfl : i = n := by omega
        clear hin
        go_wp2_with fail
        go_ret
        exact ⟨rfl, HBw.out⟩
  · rw [if_neg hv]
    rw [ok_no hv] at HV
    clear hv
    by_cases h0 : n = 0
    · subst h0
      go_enter Tryd.func35, Tryd.ntmps35
      go_wp2_with fail
      rw [← HW.out]
      obtain ⟨x0, x1, _⟩ := HT.out.cells
      go_loopw [3, 4] (fun sv iv wr => sv = .int .i64 0 ∧ iv = .int .i64 0 ∧ WA = wr) (fun _ _ _ => 0)
      case atStart => exact ⟨rfl, rfl, rfl⟩
      case round =>
        obtain ⟨rfl, rfl, rfl⟩ := hrel
        go_wp2_with fail
        go_ret
        exact ⟨rfl, HB.out⟩
    · have hn0 : (0 : Int) < (n : Int) := by omega
      go_enter Tryd.func35, Tryd.ntmps35
      go_wp2_with fail
      rw [← HW.out]
      obtain ⟨x0, x1, x2, x3, x4, x5, x6, x7⟩ := HT.out.cells
      go_loopw [3, 4] (fun sv iv wr => sv = .int .i64 0 ∧ iv = .int .i64 0 ∧ WA = wr) (fun _ _ _ => 0)
      case atStart => exact ⟨rfl, rfl, rfl⟩
      case round =>
        obtain ⟨rfl, rfl, rfl⟩ := hrel
        go_wp2_with fail
        refine (HV.out _ (HJ.out.below HB.out)).mono ?_
        rintro e w2 ⟨rfl, hb2⟩
        have HB2 := Lib.hid (bnext HB.out hb2)
        clear hb2
        go_wp2_with fail
        go_ret
        exact ⟨rfl, HB2.out⟩
end Go.Proofs.YtpfhebfkhailfaaDoor
