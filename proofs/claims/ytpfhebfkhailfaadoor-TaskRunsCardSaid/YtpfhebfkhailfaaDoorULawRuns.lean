/- The law TaskRuns: it answers true, whatever the input; no condition but what the rows' listed variables hold. -/
import Derived.Test.YtpfhebfkhailfaaDoorULawA
namespace Go.Proofs.YtpfhebfkhailfaaDoor
open Go.RowKit Go.Shelf Tsk

/-- Both runs answer alike. -/
theorem run_both (p : Int) (n : Nat) (f : Nat → Jb) (k : Ac) (now : Int) (hn : n * 32 ≤ 140737488355328) (hc : k.c ≤ 9223372036854775807) :
    ∃ P N F K X L E, (∀ (w : World) (s : Value), Jobs w s n f → Calls Tryd.prog 24 #[tV p s k, .int .i64 now] w fun e w' => ∃ t c, e = .returned (.tuple #[tV P (.slice t N c) K, .int .i64 X, .int .i64 L, errV E]) ∧ Jobs w' (.slice t N c) N F ∧ Below w.heap.size w w') ∧
      (∀ (w : World) (s : Value), Jobs w s n f → Calls Tryd.prog 25 #[tV p s k, .int .i64 now] w fun e w' => ∃ t c, e = .returned (.tuple #[tV P (.slice t N c) K, .int .i64 X, .int .i64 L, .int .i64 E]) ∧ Jobs w' (.slice t N c) N F ∧ Below w.heap.size w w') := by
  have hN : (if runE p n f k now = 0 then runN n (f 0) else 0) ≤ 9223372036854775807 := by unfold runN; (repeat' split) <;> omega
  refine ⟨if runE p n f k now = 0 then p else 0, if runE p n f k now = 0 then runN n (f 0) else 0, runF f, if runE p n f k now = 0 then runK k (f 0) now else kZ, if runE p n f k now = 0 then runW (f 0) else 0, if runE p n f k now = 0 then runL (f 0) now else 0, runE p n f k now, fun w s h => ?_, fun w s h => ?_⟩
  · exact (prun_any p s n f k now w h hc).mono fun e w' ⟨x, he, t, c, hx, ho, hb⟩ => ⟨t, c, by rw [he, hx], own_jobs ho hN, hb⟩
  · exact (rrun_any p s n f k now w h).mono fun e w' ⟨x, he, v, hx, hj, hb⟩ => by
      have hj' := hj
      obtain ⟨t, c, rfl, _, _⟩ := hj
      exact ⟨t, c, by rw [he, hx], hj', hb⟩
set_option maxHeartbeats 4000000 in
set_option maxRecDepth 100000 in
theorem runs_any (p : Int) (s : Value) (n : Nat) (f : Nat → Jb) (k : Ac) (now : Int) (w : World) (hg : LaidAt w) (h : Jobs w s n f) (hc : k.c ≤ 9223372036854775807) (hn : n * 32 ≤ 140737488355328) :
    Calls Tryd.prog 5 #[tV p s k, .int .i64 now] w fun e w' => e = .returned (.bool true) ∧ Below w.heap.size w w' := by
  obtain ⟨P, N, F, K, X, L, E, hp, hr⟩ := run_both p n f k now hn hc
  have HP := Lib.hid hp
  have HR := Lib.hid hr
  have HJ := Lib.hid h
  have HTW := Lib.hid (fun (W : World) (hb : Below w.heap.size w W) => twin_j p s n f k W (h.below hb) hn)
  have HWK := Lib.hid (fun (W : World) (hb : Below w.heap.size w W) => works_any W (hg.below hb))
  obtain ⟨q, cap, rfl, _, _⟩ := h
  have HPR := Lib.hid (fun (W : World) => pready p q n cap k W)
  have HRR := Lib.hid (fun (W : World) => rready p q n cap k W)
  generalize decide (0 < n) = D at *
  obtain ⟨kg, ko, kn, kd, kc, kt⟩ := k
  obtain ⟨Kg, Ko, Kn, Kd, Kc, Kt⟩ := K
  clear hp hr hg hc hn
  obtain ⟨WA, hWA⟩ : ∃ WA, WA = w.alloc (.cells #[.int .i64 p, .slice q n cap, .int .i64 kg, .int .i64 ko, .int .i64 kn, .int .i64 kd, .int .i64 kc, .int .i64 kt] KT) := ⟨_, rfl⟩
  have HB := Lib.hid (show Below w.heap.size w WA from by rw [hWA]; exact (Below.refl _ _).alloc (Nat.le_refl _) _)
  have HT := Lib.hid (show HasT WA w.heap.size p (.slice q n cap) ⟨kg, ko, kn, kd, kc, kt⟩ from by rw [hWA]; exact has_new w _ _ rfl)
  have HW := Lib.hid hWA
  clear hWA
  go_enter Tryd.func5, Tryd.ntmps5
  go_wp2_with fail
  rw [← HW.out]
  refine (HTW.out WA HB.out).mono ?_
  rintro e w1 ⟨sm, cm, rfl, hjm, hb1⟩
  obtain ⟨W1, hW1⟩ : ∃ W1, W1 = w1.alloc (.cells #[.int .i64 p, .slice sm n cm, .int .i64 kg, .int .i64 ko, .int .i64 kn, .int .i64 kd, .int .i64 kc, .int .i64 kt] KT) := ⟨_, rfl⟩
  have hbw1 : Below WA.heap.size WA W1 := by rw [hW1]; exact hb1.alloc hb1.size _
  have HB1 := Lib.hid (bnext HB.out hbw1)
  have HT1 := Lib.hid (show HasT W1 w.heap.size p (.slice q n cap) ⟨kg, ko, kn, kd, kc, kt⟩ ∧ HasT W1 w1.heap.size p (.slice sm n cm) ⟨kg, ko, kn, kd, kc, kt⟩ from ⟨HT.out.below hbw1, by rw [hW1]; exact hasT_new _ _ _ ⟨kg, ko, kn, kd, kc, kt⟩⟩)
  have HJ1 := Lib.hid (show Jobs W1 (.slice sm n cm) n f from by rw [hW1]; exact hjm.below ((Below.refl _ _).alloc (Nat.le_refl _) _))
  have HW1 := Lib.hid hW1
  clear hW1 hb1 hbw1 hjm
  go_wp2_with fail
  rw [← HW1.out]
  refine (HP.out W1 _ HJ1.out).mono ?_
  rintro e w2 ⟨sa, ca, rfl, hja, hb2⟩
  obtain ⟨W2, hW2⟩ : ∃ W2, W2 = w2.alloc (.cells #[.int .i64 P, .slice sa N ca, .int .i64 Kg, .int .i64 Ko, .int .i64 Kn, .int .i64 Kd, .int .i64 Kc, .int .i64 Kt] KT) := ⟨_, rfl⟩
  have hbw2 : Below W1.heap.size W1 W2 := by rw [hW2]; exact hb2.alloc hb2.size _
  have HB2 := Lib.hid (bnext HB1.out hbw2)
  have HT2 := Lib.hid (show (HasT W2 w.heap.size p (.slice q n cap) ⟨kg, ko, kn, kd, kc, kt⟩ ∧ HasT W2 w1.heap.size p (.slice sm n cm) ⟨kg, ko, kn, kd, kc, kt⟩) ∧ HasT W2 w2.heap.size P (.slice sa N ca) ⟨Kg, Ko, Kn, Kd, Kc, Kt⟩ from ⟨⟨HT1.out.1.below hbw2, HT1.out.2.below hbw2⟩, by rw [hW2]; exact hasT_new _ _ _ ⟨Kg, Ko, Kn, Kd, Kc, Kt⟩⟩)
  have HJ2 := Lib.hid (show Jobs W2 (.slice sa N ca) N F ∧ Jobs W2 (.slice sm n cm) n f from ⟨by rw [hW2]; exact hja.below ((Below.refl _ _).alloc (Nat.le_refl _) _), HJ1.out.below hbw2⟩)
  have HW2 := Lib.hid hW2
  obtain ⟨t0, t1, t2, t3, t4, t5, t6, t7⟩ := (HT1.out.1.below hb2).cells
  have htl : w.heap.size < w2.heap.size := has_lt (HT1.out.1.below hb2)
  clear hW2 hb2 hbw2 hja
  go_wp2_with fail
  rw [← HW2.out]
  refine (HR.out W2 _ (HJ.out.below HB2.out)).mono ?_
  rintro e w3 ⟨sb, cb, rfl, hjb, hb3⟩
  clear t0 t1 t2 t3 t4 t5 t6 t7
  obtain ⟨W3, hW3⟩ : ∃ W3, W3 = w3.alloc (.cells #[.int .i64 P, .slice sb N cb, .int .i64 Kg, .int .i64 Ko, .int .i64 Kn, .int .i64 Kd, .int .i64 Kc, .int .i64 Kt] KT) := ⟨_, rfl⟩
  have hbw3 : Below W2.heap.size W2 W3 := by rw [hW3]; exact hb3.alloc hb3.size _
  have HB3 := Lib.hid (bnext HB2.out hbw3)
  have HT3 := Lib.hid (show HasT W3 w.heap.size p (.slice q n cap) ⟨kg, ko, kn, kd, kc, kt⟩ ∧ HasT W3 w1.heap.size p (.slice sm n cm) ⟨kg, ko, kn, kd, kc, kt⟩ ∧ HasT W3 w2.heap.size P (.slice sa N ca) ⟨Kg, Ko, Kn, Kd, Kc, Kt⟩ ∧ HasT W3 w3.heap.size P (.slice sb N cb) ⟨Kg, Ko, Kn, Kd, Kc, Kt⟩ from ⟨HT2.out.1.1.below hbw3, HT2.out.1.2.below hbw3, HT2.out.2.below hbw3, by rw [hW3]; exact hasT_new _ _ _ ⟨Kg, Ko, Kn, Kd, Kc, Kt⟩⟩)
  have HJ3 := Lib.hid (show Jobs W3 (.slice sa N ca) N F ∧ Jobs W3 (.slice sm n cm) n f ∧ Jobs W3 (.slice sb N cb) N F ∧ Jobs W3 (.slice q n cap) n f from ⟨HJ2.out.1.below hbw3, HJ2.out.2.below hbw3, by rw [hW3]; exact hjb.below ((Below.refl _ _).alloc (Nat.le_refl _) _), HJ.out.below HB3.out⟩)
  have HW3 := Lib.hid hW3
  have HSA := Lib.hid (fun (W : World) (h : Below W3.heap.size W3 W) => same_true P (.slice sa N ca) (.slice sb N cb) N F ⟨Kg, Ko, Kn, Kd, Kc, Kt⟩ W (HJ3.out.1.below h) (HJ3.out.2.2.1.below h))
  have HSM := Lib.hid (fun (W : World) (h : Below W3.heap.size W3 W) => same_true p (.slice sm n cm) (.slice q n cap) n f ⟨kg, ko, kn, kd, kc, kt⟩ W (HJ3.out.2.1.below h) (HJ3.out.2.2.2.below h))
  have HWW := Lib.hid (fun (W : World) (h : Below W3.heap.size W3 W) => HWK.out W (bnext HB3.out h))
  clear hW3 hb3 hbw3 hjb
  go_upto_region 4 with fail
  rw [← HW3.out]
  obtain ⟨t0, t1, t2, t3, t4, t5, t6, t7⟩ := HT3.out.1.cells
  obtain ⟨m0, m1, m2, m3, m4, m5, m6, m7⟩ := HT3.out.2.1.cells
  obtain ⟨a0, a1, a2, a3, a4, a5, a6, a7⟩ := HT3.out.2.2.1.cells
  obtain ⟨b0, b1, b2, b3, b4, b5, b6, b7⟩ := HT3.out.2.2.2.cells
  have lt : w.heap.size < W3.heap.size := has_lt HT3.out.1
  have lm : w1.heap.size < W3.heap.size := has_lt HT3.out.2.1
  have la : w2.heap.size < W3.heap.size := has_lt HT3.out.2.2.1
  have lb : w3.heap.size < W3.heap.size := has_lt HT3.out.2.2.2
  go_region_held3 (fun w' => (∀ b o, b < W3.heap.size → w'.cell? ⟨b, o, none⟩ = W3.cell? ⟨b, o, none⟩) ∧ Below W3.heap.size W3 w')
    (first
      | (go_split_ands; exact keepB hb (by assumption))
      | exact keepS W3
      | (go_split_ands; exact ⟨by assumption, by assumption⟩)
      | go_keep)
    (first
      | (go_at_call 12; (first | (with_reducible refine (HSA.out _ (by go_split_ands; assumption)).mono ?_) | (with_reducible refine (HSM.out _ (by go_split_ands; assumption)).mono ?_)); rintro e w' ⟨rfl, hb⟩)
      | (go_at_call 13; refine (num_errV E _).mono ?_; rintro e w' ⟨rfl, rfl⟩)
      | (go_at_call 26; refine (HPR.out _).mono ?_; rintro e w' ⟨rfl, hb⟩)
      | (go_at_call 27; refine (HRR.out _).mono ?_; rintro e w' ⟨rfl, hb⟩)
      | (go_at_call 21; refine (HWW.out _ (by go_split_ands; assumption)).mono ?_; rintro e w' ⟨rfl, hb⟩))
  all_goals
    go_split_ands
    go_wp2_with fail
    go_ret
    exact ⟨rfl, bnext HB3.out (by assumption)⟩
end Go.Proofs.YtpfhebfkhailfaaDoor
