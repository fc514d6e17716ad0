/- The document's own task: Text; no condition but those that each row names. -/
import Derived.Test.YtpfhebfkhailfaaDoorQRefA
import Derived.Test.YtpfhebfkhailfaaDoorQDig
namespace Go.Proofs.YtpfhebfkhailfaaDoor
open Go.RowKit Tsk

set_option maxHeartbeats 2000000 in
theorem rtext_no (p : Int) (s : Value) (n : Nat) (f : Nat → Jb) (k : Ac) (w : World) (h : Jobs w s n f) (hv : ¬ okT p n f k) : Calls Tryd.prog 17 #[tV p s k] w fun e w' => e = .returned (.string ⟨#[]⟩) ∧ Below w.heap.size w w' := by
  have HV := Lib.hid (fun w (h : Jobs w s n f) => rvalid p s n f k w h)
  rw [ok_no hv] at HV
  have HJ := Lib.hid h
  obtain ⟨q, cap, rfl, _, _⟩ := h
  obtain ⟨kg, ko, kn, kd, kc, kt⟩ := k
  have HB := Lib.hid (show Below w.heap.size w (w.alloc (.cells #[.int .i64 p, .slice q n cap, .int .i64 kg, .int .i64 ko, .int .i64 kn, .int .i64 kd, .int .i64 kc, .int .i64 kt] KT)) from (Below.refl _ _).alloc (Nat.le_refl _) _)
  clear hv
  go_enter Tryd.func17, Tryd.ntmps17
  go_wp2_with fail
  refine (HV.out _ (HJ.out.below HB.out)).mono ?_
  rintro e w1 ⟨rfl, hb1⟩
  have HB1 := Lib.hid (bnext HB.out hb1)
  clear hb1
  go_wp2_with fail
  go_ret
  exact ⟨rfl, HB1.out⟩
/-- What is told of a task ahead of its jobs. -/
def headL (p : Int) (k : Ac) : List UInt8 := [112, 114, 105, 111, 32] ++ dgL p ++ [32, 103, 105, 118, 101, 110, 32] ++ dgL k.g ++ [32, 100, 111, 110, 101, 32] ++ dgL k.d ++ [32, 99, 117, 116, 32] ++ dgL k.c ++ [32, 108, 97, 116, 101, 32] ++ dgL k.t
/-- What is told of a job. -/
def jobL (j : Jb) : List UInt8 := [32, 91] ++ dgL j.l ++ (if 0 < j.c then [32, 99, 97, 112, 32] ++ dgL j.c else []) ++ [32, 97, 116, 32] ++ dgL j.a ++ (if 0 < j.d then [32, 100, 117, 101, 32] ++ dgL j.d else []) ++ [93]
def textS (p : Int) (k : Ac) (f : Nat → Jb) : Nat → List UInt8
  | 0 => headL p k
  | n + 1 => textS p k f n ++ jobL (f n)
theorem headL_len {p : Int} {k : Ac} (hp : p ≤ 31) (hg : k.g ≤ 1073741824) (hd : k.d ≤ 1073741824) (hc : k.c ≤ 1073741824) (ht : k.t ≤ 1073741824) : (headL p k).length ≤ 79 := by
  have l1 := dgL_len p (by omega)
  have l2 := dgL_len k.g (by omega)
  have l3 := dgL_len k.d (by omega)
  have l4 := dgL_len k.c (by omega)
  have l5 := dgL_len k.t (by omega)
  unfold headL
  simp only [List.length_append, List.length_cons, List.length_nil]
  omega
theorem jobL_len {j : Jb} (h : okJ j) : (jobL j).length ≤ 57 := by
  obtain ⟨h1, h2, h3, h4⟩ := h
  have l1 := dgL_len j.l (by omega)
  have l2 := dgL_len j.c (by omega)
  have l3 := dgL_len j.a (by omega)
  have l4 := dgL_len j.d (by omega)
  unfold jobL
  (repeat' split) <;> simp only [List.length_append, List.length_cons, List.length_nil] <;> omega
theorem textS_len {p : Int} {k : Ac} {f : Nat → Jb} (h0 : (headL p k).length ≤ 79) : ∀ {n : Nat}, (∀ i, i < n → okJ (f i)) → (textS p k f n).length ≤ 79 + 57 * n
  | 0, _ => by simpa [textS] using h0
  | n + 1, h => by
    have ih := textS_len (f := f) h0 (n := n) (fun i hi => h i (by omega))
    have hj := jobL_len (h n (by omega))
    simp only [textS, List.length_append]
    omega
set_option maxHeartbeats 1500000 in
theorem rtext_ok (p : Int) (s : Value) (n : Nat) (f : Nat → Jb) (k : Ac) (w : World) (h : Jobs w s n f) (hv : okT p n f k) : Calls Tryd.prog 17 #[tV p s k] w fun e w' => e = .returned (.string ⟨(textS p k f n).toArray⟩) ∧ Below w.heap.size w w' := by
  have HV := Lib.hid (fun w (h : Jobs w s n f) => rvalid p s n f k w h)
  rw [ok_yes hv] at HV
  have HJ := Lib.hid h
  have HOK := Lib.hid hv
  obtain ⟨q, cap, rfl, _, _⟩ := h
  obtain ⟨kg, ko, kn, kd, kc, kt⟩ := k
  obtain ⟨WA, hWA⟩ : ∃ WA, WA = w.alloc (.cells #[.int .i64 p, .slice q n cap, .int .i64 kg, .int .i64 ko, .int .i64 kn, .int .i64 kd, .int .i64 kc, .int .i64 kt] KT) := ⟨_, rfl⟩
  have HB := Lib.hid (show Below w.heap.size w WA from by rw [hWA]; exact (Below.refl _ _).alloc (Nat.le_refl _) _)
  have HT := Lib.hid (show HasT WA w.heap.size p (.slice q n cap) ⟨kg, ko, kn, kd, kc, kt⟩ from by rw [hWA]; exact has_new w _ _ rfl)
  have HW := Lib.hid hWA
  clear hv hWA
  go_enter Tryd.func17, Tryd.ntmps17
  go_wp2_with fail
  rw [← HW.out]
  refine (HV.out _ (HJ.out.below HB.out)).mono ?_
  rintro e w1 ⟨rfl, hb1⟩
  obtain ⟨x0, x1, x2, x3, x4, x5, x6, x7⟩ := (HT.out.below hb1).cells
  have HB1 := Lib.hid (bnext HB.out hb1)
  have HT1 := Lib.hid (HT.out.below hb1)
  clear hb1
  have hok := HOK.out
  obtain ⟨⟨p1, p2⟩, hn8, _, hA⟩ := hok
  obtain ⟨⟨⟨g1, g2⟩, hz2, hz3⟩, ⟨d1, d2⟩, ⟨c1, c2⟩, t1, t2⟩ := (okA_mk _ _ _ _ _ _).1 hA
  clear hz2 hz3
  have HDP := Lib.hid (fun w => digits_q p w p1 (by omega))
  have HDG := Lib.hid (fun w => digits_q kg w g1 (by omega))
  have HDD := Lib.hid (fun w => digits_q kd w d1 (by omega))
  have HDC := Lib.hid (fun w => digits_q kc w c1 (by omega))
  have HDT := Lib.hid (fun w => digits_q kt w t1 (by omega))
  have lp := dgL_len p (by omega)
  have lg := dgL_len kg (by omega)
  have ld := dgL_len kd (by omega)
  have lc := dgL_len kc (by omega)
  have lt := dgL_len kt (by omega)
  have HLN := Lib.hid (headL_len (p := p) (k := ⟨kg, ko, kn, kd, kc, kt⟩) p2 g2 (by dsimp only; omega) (by dsimp only; omega) (by dsimp only; omega))
  have HH := Lib.hid (show headL p ⟨kg, ko, kn, kd, kc, kt⟩ = [112, 114, 105, 111, 32] ++ dgL p ++ [32, 103, 105, 118, 101, 110, 32] ++ dgL kg ++ [32, 100, 111, 110, 101, 32] ++ dgL kd ++ [32, 99, 117, 116, 32] ++ dgL kc ++ [32, 108, 97, 116, 101, 32] ++ dgL kt from rfl)
  generalize dgL p = dp at *
  generalize dgL kg = dg at *
  generalize dgL kd = dd at *
  generalize dgL kc = dc at *
  generalize dgL kt = dt at *
  have n1 : ¬ 9223372036854775807 < 5 + dp.length := by omega
  have n2 : ¬ 9223372036854775807 < 5 + dp.length + 7 := by omega
  have n3 : ¬ 9223372036854775807 < 5 + dp.length + 7 + dg.length := by omega
  have n4 : ¬ 9223372036854775807 < 5 + dp.length + 7 + dg.length + 6 := by omega
  have n5 : ¬ 9223372036854775807 < 5 + dp.length + 7 + dg.length + 6 + dd.length := by omega
  have n6 : ¬ 9223372036854775807 < 5 + dp.length + 7 + dg.length + 6 + dd.length + 5 := by omega
  have n7 : ¬ 9223372036854775807 < 5 + dp.length + 7 + dg.length + 6 + dd.length + 5 + dc.length := by omega
  have n8 : ¬ 9223372036854775807 < 5 + dp.length + 7 + dg.length + 6 + dd.length + 5 + dc.length + 6 := by omega
  have n9 : ¬ 9223372036854775807 < 5 + dp.length + 7 + dg.length + 6 + dd.length + 5 + dc.length + 6 + dt.length := by omega
  clear hA
  obtain ⟨W2, hW2⟩ : ∃ W2, W2 = w1.alloc (.cells #[.int .i64 kg, .int .i64 ko, .int .i64 kn, .int .i64 kd, .int .i64 kc, .int .i64 kt] 24) := ⟨_, rfl⟩
  have hb2 : Below w1.heap.size w1 W2 := by rw [hW2]; exact (Below.refl _ _).alloc (Nat.le_refl _) _
  have HA2 := Lib.hid (show Has W2 w1.heap.size (.cells #[.int .i64 kg, .int .i64 ko, .int .i64 kn, .int .i64 kd, .int .i64 kc, .int .i64 kt] 24 (0, 0)) from by rw [hW2]; exact has_new _ _ _ rfl)
  have HW2 := Lib.hid hW2
  have HB2 := Lib.hid (bnext HB1.out hb2)
  have HT2 := Lib.hid (HT1.out.below hb2)
  clear hW2 hb2
  go_wp2_with fail
  rw [← HW2.out]
  clear x0 x1 x2 x3 x4 x5 x6 x7
  obtain ⟨x0, x1, _⟩ := HT2.out.cells
  have a0 : W2.cell? ⟨w1.heap.size, 0, none⟩ = some (.int .i64 kg) := (has_cell HA2.out 0).trans rfl
  have a3 : W2.cell? ⟨w1.heap.size, 3, none⟩ = some (.int .i64 kd) := (has_cell HA2.out 3).trans rfl
  have a4 : W2.cell? ⟨w1.heap.size, 4, none⟩ = some (.int .i64 kc) := (has_cell HA2.out 4).trans rfl
  have a5 : W2.cell? ⟨w1.heap.size, 5, none⟩ = some (.int .i64 kt) := (has_cell HA2.out 5).trans rfl
  go_quiet ((first | (go_at_call 44; first | (with_reducible exact Calls.quiet_of (HDP.out _)) | (with_reducible exact Calls.quiet_of (HDG.out _)) | (with_reducible exact Calls.quiet_of (HDD.out _)) | (with_reducible exact Calls.quiet_of (HDC.out _)) | (with_reducible exact Calls.quiet_of (HDT.out _)))))
  have HBq := Lib.hid (below_drewN HB2.out nq)
  have HTq := Lib.hid (show HasT (W2.drewN nq) w.heap.size p (.slice q n cap) ⟨kg, ko, kn, kd, kc, kt⟩ from HT2.out)
  generalize W2.drewN nq = W4 at *
  clear x0 x1 a0 a3 a4 a5 n1 n2 n3 n4 n5 n6 n7 n8 n9
  go_wp2_with fail
  go_loopw [4, 5] (fun sv iv wr => ∃ i : Nat, iv = .int .i64 i ∧ i ≤ n ∧ sv = .string ⟨(textS p ⟨kg, ko, kn, kd, kc, kt⟩ f i).toArray⟩ ∧ Hid (Below W4.heap.size W4 wr)) (fun _ iv _ => n - (intOf iv).toNat)
  case atStart => exact ⟨0, rfl, Nat.zero_le _, congrArg Value.string (by show _ = (⟨(headL p ⟨kg, ko, kn, kd, kc, kt⟩).toArray⟩ : ByteArray); rw [HH.out]; exact ba_of_list (by simp [ByteArray.data_append])), Lib.hid (Below.refl _ _)⟩
  case round =>
    obtain ⟨i, rfl, hi, rfl, HBr⟩ := hrel
    obtain ⟨x0, x1, _⟩ := (HTq.out.below HBr.out).cells
    have HBw := Lib.hid (bnext HBq.out HBr.out)
    by_cases hin : i < n
    · have hin' : (i : Int) < (n : Int) := by omega
      obtain ⟨q', cap', e, _, hcl⟩ := HJ.out.below HBw.out
      cases e
      obtain ⟨b, off, rfl, e0, e1, e2, e3⟩ := hcl i hin
      clear hcl
      have HJK := Lib.hid (HOK.out.2.2.1 i hin)
      obtain ⟨⟨l1, l2⟩, ⟨c1', c2'⟩, ⟨a1', a2'⟩, d1', d2'⟩ := HOK.out.2.2.1 i hin
      have HTL := Lib.hid (textS_len (f := f) HLN.out (n := i) (fun j hj => HOK.out.2.2.1 j (by omega)))
      have HS := Lib.hid (show textS p ⟨kg, ko, kn, kd, kc, kt⟩ f (i + 1) = textS p ⟨kg, ko, kn, kd, kc, kt⟩ f i ++ jobL (f i) from rfl)
      have hL := HTL.out
      generalize textS p ⟨kg, ko, kn, kd, kc, kt⟩ f i = L at *
      generalize f i = jb at *
      obtain ⟨l, c, a, d⟩ := jb
      dsimp only at l1 l2 c1' c2' a1' a2' d1' d2' e0 e1 e2 e3
      have hsl : w.heap.size < wr.heap.size := cell_lt x1
      have hL2 : L.length ≤ 600 := by omega
      have HJ0 := Lib.hid (fun w => digits_q l w (by omega) (by omega))
      have HJ1 := Lib.hid (fun w => digits_q c w c1' (by omega))
      have HJ2 := Lib.hid (fun w => digits_q a w a1' (by omega))
      have HJ3 := Lib.hid (fun w => digits_q d w d1' (by omega))
      have k0 := dgL_len l (by omega)
      have k1 := dgL_len c (by omega)
      have k2 := dgL_len a (by omega)
      have k3 := dgL_len d (by omega)
      have HJL := Lib.hid (show jobL ⟨l, c, a, d⟩ = [32, 91] ++ dgL l ++ (if 0 < c then [32, 99, 97, 112, 32] ++ dgL c else []) ++ [32, 97, 116, 32] ++ dgL a ++ (if 0 < d then [32, 100, 117, 101, 32] ++ dgL d else []) ++ [93] from rfl)
      generalize dgL l = jl at *
      generalize dgL c = jc at *
      generalize dgL a = ja at *
      generalize dgL d = jd at *
      clear hL
      have HBA := Lib.hid (show Below W4.heap.size W4 (wr.alloc (.cells #[.int .i64 l, .int .i64 c, .int .i64 a, .int .i64 d] JT)) from bnext HBr.out ((Below.refl _ _).alloc (Nat.le_refl _) _))
      by_cases hc : 0 < c
      · by_cases hd : 0 < d
        · have HS2 := Lib.hid (show textS p ⟨kg, ko, kn, kd, kc, kt⟩ f (i + 1) = L ++ ([32, 91] ++ jl ++ ([32, 99, 97, 112, 32] ++ jc) ++ [32, 97, 116, 32] ++ ja ++ ([32, 100, 117, 101, 32] ++ jd) ++ [93]) from by rw [HS.out, HJL.out, if_pos hc, if_pos hd])
          have m0 : ¬ 9223372036854775807 < L.length + 2 := by omega
          have m1 : ¬ 9223372036854775807 < L.length + 2 + jl.length := by omega
          have m2 : ¬ 9223372036854775807 < L.length + 2 + jl.length + 5 := by omega
          have m3 : ¬ 9223372036854775807 < L.length + 2 + jl.length + 5 + jc.length := by omega
          have m4 : ¬ 9223372036854775807 < L.length + 2 + jl.length + 5 + jc.length + 4 := by omega
          have m5 : ¬ 9223372036854775807 < L.length + 2 + jl.length + 5 + jc.length + 4 + ja.length := by omega
          have m6 : ¬ 9223372036854775807 < L.length + 2 + jl.length + 5 + jc.length + 4 + ja.length + 5 := by omega
          have m7 : ¬ 9223372036854775807 < L.length + 2 + jl.length + 5 + jc.length + 4 + ja.length + 5 + jd.length := by omega
          have m8 : ¬ 9223372036854775807 < L.length + 2 + jl.length + 5 + jc.length + 4 + ja.length + 5 + jd.length + 1 := by omega
          go_wp2_with (go_at_call 44; first | (with_reducible refine (HJ0.out _).mono ?_; rintro e w5 ⟨rfl, k5, rfl⟩) | (with_reducible refine (HJ1.out _).mono ?_; rintro e w5 ⟨rfl, k5, rfl⟩) | (with_reducible refine (HJ2.out _).mono ?_; rintro e w5 ⟨rfl, k5, rfl⟩) | (with_reducible refine (HJ3.out _).mono ?_; rintro e w5 ⟨rfl, k5, rfl⟩))
          go_roundw
          case rel => exact ⟨i + 1, by go_num, by omega, congrArg Value.string (by rw [HS2.out]; exact ba_of_list (by simp [ByteArray.data_append])), Lib.hid (below_drewN HBA.out _)⟩
          case measure => simp [intOf]; omega
        · have HS2 := Lib.hid (show textS p ⟨kg, ko, kn, kd, kc, kt⟩ f (i + 1) = L ++ ([32, 91] ++ jl ++ ([32, 99, 97, 112, 32] ++ jc) ++ [32, 97, 116, 32] ++ ja ++ [] ++ [93]) from by rw [HS.out, HJL.out, if_pos hc, if_neg hd])
          have zd : decide (0 < d) = false := decide_eq_false hd
          clear hd
          have m0 : ¬ 9223372036854775807 < L.length + 2 := by omega
          have m1 : ¬ 9223372036854775807 < L.length + 2 + jl.length := by omega
          have m2 : ¬ 9223372036854775807 < L.length + 2 + jl.length + 5 := by omega
          have m3 : ¬ 9223372036854775807 < L.length + 2 + jl.length + 5 + jc.length := by omega
          have m4 : ¬ 9223372036854775807 < L.length + 2 + jl.length + 5 + jc.length + 4 := by omega
          have m5 : ¬ 9223372036854775807 < L.length + 2 + jl.length + 5 + jc.length + 4 + ja.length := by omega
          have m6 : ¬ 9223372036854775807 < L.length + 2 + jl.length + 5 + jc.length + 4 + ja.length + 1 := by omega
          go_wp2_with (go_at_call 44; first | (with_reducible refine (HJ0.out _).mono ?_; rintro e w5 ⟨rfl, k5, rfl⟩) | (with_reducible refine (HJ1.out _).mono ?_; rintro e w5 ⟨rfl, k5, rfl⟩) | (with_reducible refine (HJ2.out _).mono ?_; rintro e w5 ⟨rfl, k5, rfl⟩) | (with_reducible refine (HJ3.out _).mono ?_; rintro e w5 ⟨rfl, k5, rfl⟩))
          go_roundw
          case rel => exact ⟨i + 1, by go_num, by omega, congrArg Value.string (by rw [HS2.out]; exact ba_of_list (by simp [ByteArray.data_append])), Lib.hid (below_drewN HBA.out _)⟩
          case measure => simp [intOf]; omega
      · by_cases hd : 0 < d
        · have HS2 := Lib.hid (show textS p ⟨kg, ko, kn, kd, kc, kt⟩ f (i + 1) = L ++ ([32, 91] ++ jl ++ [] ++ [32, 97, 116, 32] ++ ja ++ ([32, 100, 117, 101, 32] ++ jd) ++ [93]) from by rw [HS.out, HJL.out, if_neg hc, if_pos hd])
          have zc : decide (0 < c) = false := decide_eq_false hc
          clear hc
          have m0 : ¬ 9223372036854775807 < L.length + 2 := by omega
          have m1 : ¬ 9223372036854775807 < L.length + 2 + jl.length := by omega
          have m2 : ¬ 9223372036854775807 < L.length + 2 + jl.length + 4 := by omega
          have m3 : ¬ 9223372036854775807 < L.length + 2 + jl.length + 4 + ja.length := by omega
          have m4 : ¬ 9223372036854775807 < L.length + 2 + jl.length + 4 + ja.length + 5 := by omega
          have m5 : ¬ 9223372036854775807 < L.length + 2 + jl.length + 4 + ja.length + 5 + jd.length := by omega
          have m6 : ¬ 9223372036854775807 < L.length + 2 + jl.length + 4 + ja.length + 5 + jd.length + 1 := by omega
          go_wp2_with (go_at_call 44; first | (with_reducible refine (HJ0.out _).mono ?_; rintro e w5 ⟨rfl, k5, rfl⟩) | (with_reducible refine (HJ1.out _).mono ?_; rintro e w5 ⟨rfl, k5, rfl⟩) | (with_reducible refine (HJ2.out _).mono ?_; rintro e w5 ⟨rfl, k5, rfl⟩) | (with_reducible refine (HJ3.out _).mono ?_; rintro e w5 ⟨rfl, k5, rfl⟩))
          go_roundw
          case rel => exact ⟨i + 1, by go_num, by omega, congrArg Value.string (by rw [HS2.out]; exact ba_of_list (by simp [ByteArray.data_append])), Lib.hid (below_drewN HBA.out _)⟩
          case measure => simp [intOf]; omega
        · have HS2 := Lib.hid (show textS p ⟨kg, ko, kn, kd, kc, kt⟩ f (i + 1) = L ++ ([32, 91] ++ jl ++ [] ++ [32, 97, 116, 32] ++ ja ++ [] ++ [93]) from by rw [HS.out, HJL.out, if_neg hc, if_neg hd])
          have zc : decide (0 < c) = false := decide_eq_false hc
          clear hc
          have zd : decide (0 < d) = false := decide_eq_false hd
          clear hd
          have m0 : ¬ 9223372036854775807 < L.length + 2 := by omega
          have m1 : ¬ 9223372036854775807 < L.length + 2 + jl.length := by omega
          have m2 : ¬ 9223372036854775807 < L.length + 2 + jl.length + 4 := by omega
          have m3 : ¬ 9223372036854775807 < L.length + 2 + jl.length + 4 + ja.length := by omega
          have m4 : ¬ 9223372036854775807 < L.length + 2 + jl.length + 4 + ja.length + 1 := by omega
          go_wp2_with (go_at_call 44; first | (with_reducible refine (HJ0.out _).mono ?_; rintro e w5 ⟨rfl, k5, rfl⟩) | (with_reducible refine (HJ1.out _).mono ?_; rintro e w5 ⟨rfl, k5, rfl⟩) | (with_reducible refine (HJ2.out _).mono ?_; rintro e w5 ⟨rfl, k5, rfl⟩) | (with_reducible refine (HJ3.out _).mono ?_; rintro e w5 ⟨rfl, k5, rfl⟩))
          go_roundw
          case rel => exact ⟨i + 1, by go_num, by omega, congrArg Value.string (by rw [HS2.out]; exact ba_of_list (by simp [ByteArray.data_append])), Lib.hid (below_drewN HBA.out _)⟩
          case measure => simp [intOf]; omega
    · have hg3 : decide (i < n) = false := decide_eq_false hin
      obtain rfl : i = n := by omega
      clear hin
      go_wp2_with fail
      go_ret
      exact ⟨rfl, HBw.out⟩
/-- Text, of every task. -/
theorem rtext_any (p : Int) (s : Value) (n : Nat) (f : Nat → Jb) (k : Ac) (w : World) (h : Jobs w s n f) : Calls Tryd.prog 17 #[tV p s k] w fun e w' => e = .returned (.string ⟨(if okT p n f k then textS p k f n else []).toArray⟩) ∧ Below w.heap.size w w' := by
  by_cases hv : okT p n f k
  · rw [if_pos hv]; exact rtext_ok p s n f k w h hv
  · rw [if_neg hv]; exact rtext_no p s n f k w h hv
end Go.Proofs.YtpfhebfkhailfaaDoor
