/- The law's own do: an Of; no condition but those that each row names. -/
import Derived.Test.YtedgchafligndaaGreatJB13
namespace Go.Proofs.YtedgchafligndaaGreat
open Go.RowKit Tsk

set_option maxHeartbeats 8000000 in
set_option maxRecDepth 100000 in
theorem do_oof (S X : Nat → Prop) (B : Nat) (A : Tab) (T : Nat → Tk) (la now k i p l c a d : Int) (v gs ts ks wv : Value) (L : List Int) (w : World) (hin : Ro S X B w A T la v gs ts ks wv L) (hL : L.length ≤ 4000) (hk : kd k = 4) :
    Calls Tryz.prog 12 #[runv gs ts ks la wv now, v, av7 k i p l c a d] w (DoPost S X B w v wv L) := by
  have HIN := Lib.hid hin
  have hkw := kd_wrap k
  unfold kd at hk
  obtain ⟨bl, rfl, _⟩ := id hin.pl.ptr
  obtain ⟨p1, cp1, p2, cp2, p3, cp3, _, rfl, rfl, rfl, _⟩ := hin.dp.shape hin.pi.good
  obtain ⟨pw, cw, rfl⟩ := own_slice hin.row
  obtain ⟨hB, hbw, hsz⟩ := beg_new w (.slice p1 16 cp1) (.slice p2 16 cp2) (.slice p3 16 cp3) la (.slice pw L.length cw) now k i p l c a d
  obtain ⟨WA, hWA⟩ : ∃ WA, WA = begW w (.slice p1 16 cp1) (.slice p2 16 cp2) (.slice p3 16 cp3) la (.slice pw L.length cw) now k i p l c a d := ⟨_, rfl⟩
  rw [← hWA] at hB hbw hsz
  have HB := Lib.hid hB
  have HBW := Lib.hid hbw
  have HSZ := Lib.hid hsz
  have HRO := Lib.hid (show Ro S (XZ X w) B WA A T la (.pointer (some ⟨bl, 0, none⟩)) (.slice p1 16 cp1) (.slice p2 16 cp2) (.slice p3 16 cp3) (.slice pw L.length cw) L from hin.wide (fun x hx q => by rcases q with q | q; exact q; omega) (fun x q => .inl q) hbw (fun x q => by rcases q with q | q; have := hin.xw x q; omega; omega))
  have HSL := Lib.hid (fun x (hx : S x) => (show B ≤ x ∧ x < w.heap.size from hin.pl.lt x hx))
  have HPK := Lib.hid (fun W (hb : Below WA.heap.size WA W) => pick_any (.slice p1 16 cp1) (.slice p2 16 cp2) (.slice p3 16 cp3) (.slice pw L.length cw) la now i L W (Lst.of_own (own_under HRO.out.row hb) (ints_len _) (by omega) (fun _ _ _ q => q)))
  unfold begW at hWA
  have HW := Lib.hid hWA
  clear hWA hB hbw hsz hin
  generalize pkH L i = hh at *
  go_enter Tryz.func12, Tryz.ntmps12
  go_upto_region 1 with fail
  rw [← HW.out]
  obtain ⟨a0, a1, a2, a3, a4, a5⟩ := HB.out.r.cells
  obtain ⟨b0, b1, b2, b3, b4, b5, b6⟩ := HB.out.o.cells
  go_wp2_with fail
  refine (HPK.out WA (Below.refl _ _)).mono ?_
  rintro e w1 ⟨rfl, hb1⟩
  have HRO1 := Lib.hid (HRO.out.below hb1)
  have HB1 := Lib.hid (HB.out.below hb1)
  have HBW1 := Lib.hid (bnext HBW.out hb1)
  have HS1 := Lib.hid (show w.heap.size + 3 ≤ w1.heap.size from by have := HSZ.out; have := hb1.size; omega)
  clear a0 a1 a2 a3 a4 a5 b0 b1 b2 b3 b4 b5 b6 hb1
  obtain ⟨a0, a1, a2, a3, a4, a5⟩ := HB1.out.r.cells
  obtain ⟨b0, b1, b2, b3, b4, b5, b6⟩ := HB1.out.o.cells
  have HPO1 := Lib.hid (fun i (hf : A.find hh = some i) => plof_some S (XZ X w) (fun _ => False) B A T la HRO.out.pi.good w1 _ HRO1.out.pl hh (fun _ q => q.elim) i hf)
  have HPO0 := Lib.hid (fun (hf : A.find hh = none) => plof_none S (XZ X w) B A T la HRO.out.pi.good w1 _ HRO1.out.pl hh hf)
  have HRF := Lib.hid (fun W (hb : Below w1.heap.size w1 W) => rof (XZ X w) A T la HRO.out.pi.good _ _ _ W (HRO1.out.dp.below hb) hh)
  unfold OfR14 at HRF
  have HZT : zT = tV 0 (.slice none 0 0) kZ := rfl
  have HPA := Lib.hid (show ∃ (tp : Int) (tn : Nat) (tf : Nat → Jb) (tk : Ac) (en : Int), (Calls Tryz.prog 41 #[.pointer (some ⟨bl, 0, none⟩), .int .i64 hh] w1 fun e w' => ∃ s, e = .returned (.tuple #[tV tp s tk, errV en]) ∧ Jobs w' s tn tf ∧ Below w1.heap.size w1 w') ∧
      ∀ W, Below w1.heap.size w1 W → Calls Tryz.prog 42 #[pv (.slice p1 16 cp1) (.slice p2 16 cp2) (.slice p3 16 cp3) la, .int .i64 hh] W fun e w' => ∃ s, e = .returned (.tuple #[tV tp s tk, .int .i64 en]) ∧ Jobs w' s tn tf ∧ Below W.heap.size W w' from by
    cases hf : A.find hh with
    | none => exact ⟨0, 0, fun _ => ⟨0, 0, 0, 0⟩, kZ, 20, (HPO0.out hf).mono fun e w' hq => ⟨_, hq.1, jobs_none _ _ _ _ _ rfl, hq.2⟩, fun W hb => (HRF.out W hb).mono fun e w' hq => ⟨_, (hq.1 hf).1, jobs_none _ _ _ _ _ rfl, (hq.1 hf).2⟩⟩
    | some i => exact ⟨(T i).p, (T i).n, (T i).f, (T i).k, 0, (HPO1.out i hf).mono fun e w' hq => by
        obtain ⟨s, h1, h2, h3⟩ := hq
        rw [errV_0]
        exact ⟨s, h1, h2.1, h3⟩, fun W hb => (HRF.out W hb).mono fun e w' hq => by
        obtain ⟨s, h1, h2, h3⟩ := hq.2 i hf
        exact ⟨s, h1, h2.1, h3⟩⟩)
  obtain ⟨tp, tn, tf, tk, en, hc1, hc2⟩ := HPA.out
  have HC1 := Lib.hid hc1
  have HC2 := Lib.hid hc2
  obtain ⟨kg, ko, kn, kdd, kc, kt⟩ := tk
  clear HZT HPA hc1 hc2 HPO1 HPO0 HRF
  go_wp2_with fail
  refine HC1.out.mono ?_
  rintro e w2 ⟨s2, rfl, hj2, hb2⟩
  obtain ⟨pj2, cj2, rfl, _, _⟩ := id hj2
  obtain ⟨W2, hW2⟩ : ∃ W2, W2 = w2.alloc (.cells #[.int .i64 tp, .slice pj2 tn cj2, .int .i64 kg, .int .i64 ko, .int .i64 kn, .int .i64 kdd, .int .i64 kc, .int .i64 kt] KT) := ⟨_, rfl⟩
  have hb2a : Below w2.heap.size w2 W2 := by rw [hW2]; exact (Below.refl _ _).alloc (Nat.le_refl _) _
  have HT2 := Lib.hid (show HasT W2 w2.heap.size tp (.slice pj2 tn cj2) ⟨kg, ko, kn, kdd, kc, kt⟩ from by rw [hW2]; exact hasT_new w2 tp _ ⟨kg, ko, kn, kdd, kc, kt⟩)
  have HJ2 := Lib.hid (hj2.below hb2a)
  have HBW2 := Lib.hid (bnext hb2 hb2a)
  have HWW := Lib.hid hW2
  clear a0 a1 a2 a3 a4 a5 b0 b1 b2 b3 b4 b5 b6 hj2 hb2 hb2a hW2
  go_upto_region 19 with fail
  rw [← HWW.out]
  have HB2 := Lib.hid (HB1.out.below HBW2.out)
  obtain ⟨a0, a1, a2, a3, a4, a5⟩ := HB2.out.r.cells
  go_wp2_with fail
  refine (HC2.out W2 HBW2.out).mono ?_
  rintro e w3 ⟨s3, rfl, hj3, hb3⟩
  obtain ⟨pj3, cj3, rfl, _, _⟩ := id hj3
  obtain ⟨W3, hW3⟩ : ∃ W3, W3 = w3.alloc (.cells #[.int .i64 tp, .slice pj3 tn cj3, .int .i64 kg, .int .i64 ko, .int .i64 kn, .int .i64 kdd, .int .i64 kc, .int .i64 kt] KT) := ⟨_, rfl⟩
  have hb3a : Below w3.heap.size w3 W3 := by rw [hW3]; exact (Below.refl _ _).alloc (Nat.le_refl _) _
  have HT3 := Lib.hid (show HasT W3 w3.heap.size tp (.slice pj3 tn cj3) ⟨kg, ko, kn, kdd, kc, kt⟩ from by rw [hW3]; exact hasT_new w3 tp _ ⟨kg, ko, kn, kdd, kc, kt⟩)
  have HJ3 := Lib.hid (hj3.below hb3a)
  have HBW3 := Lib.hid (bnext HBW2.out (bnext hb3 hb3a))
  have HT2' := Lib.hid (HT2.out.below (bnext hb3 hb3a))
  have HJ2' := Lib.hid (HJ2.out.below (bnext hb3 hb3a))
  have HWX := Lib.hid hW3
  clear a0 a1 a2 a3 a4 a5 hj3 hb3 hb3a hW3
  go_upto_region 20 with fail
  rw [← HWX.out]
  have HB3 := Lib.hid (HB1.out.below HBW3.out)
  have HR3 := Lib.hid (HRO1.out.below HBW3.out)
  have HS3 := Lib.hid (show w.heap.size + 3 ≤ W3.heap.size from by have := HS1.out; have := HBW3.out.size; omega)
  have HSM := Lib.hid (fun W (hb : Below W3.heap.size W3 W) => rsame_any tp (.slice pj2 tn cj2) tn tf ⟨kg, ko, kn, kdd, kc, kt⟩ tp (.slice pj3 tn cj3) tn tf ⟨kg, ko, kn, kdd, kc, kt⟩ W (HJ2'.out.below hb) (HJ3.out.below hb))
  rw [show decide (sameT tp tn tf ⟨kg, ko, kn, kdd, kc, kt⟩ tp tn tf ⟨kg, ko, kn, kdd, kc, kt⟩) = true from decide_eq_true ⟨rfl, rfl, rfl, fun _ _ => rfl⟩] at HSM
  have HNU := Lib.hid (fun W => num_any en W)
  have hq2 : ((en : Int) == en) = true := by simp
  have HKB := Lib.hid (fun W (hb : Below W3.heap.size W3 W) => (show _ ∧ _ ∧ _ ∧ _ ∧ (∀ j, W.frozen? ⟨w.heap.size + 1 + 1, j, none⟩ = false) from by
    have h9 := HB3.out.below hb
    exact ⟨h9.r.cells, h9.z.cells, HasT.cells (HT2'.out.below hb), HasT.cells (HT3.out.below hb), fun j => has_free h9.z j⟩))
  obtain ⟨⟨a0, a1, a2, a3, a4, a5⟩, ⟨y0, y1, y2, y3, y4, y5⟩, ⟨x0, x1, x2, x3, x4, x5, x6, x7⟩, ⟨z0, z1, z2, z3, z4, z5, z6, z7⟩, fz⟩ := HKB.out W3 (Below.refl _ _)
  go_region_law (first
    | (go_simp; go_at_call 32; refine (HSM.out _ below_drewOne).mono ?_; rintro e w4 ⟨rfl, hb4⟩; have HB4 := Lib.hid (bnext below_drewOne hb4); clear a0 a1 a2 a3 a4 a5 y0 y1 y2 y3 y4 y5 x0 x1 x2 x3 x4 x5 x6 x7 z0 z1 z2 z3 z4 z5 z6 z7 fz hb4; obtain ⟨⟨a0, a1, a2, a3, a4, a5⟩, ⟨y0, y1, y2, y3, y4, y5⟩, ⟨x0, x1, x2, x3, x4, x5, x6, x7⟩, ⟨z0, z1, z2, z3, z4, z5, z6, z7⟩, fz⟩ := HKB.out w4 HB4.out)
    | (go_simp; go_at_call 8; refine (HNU.out _).mono ?_; rintro e wn ⟨rfl, rfl⟩))
  all_goals
    go_wp2_with fail
    refine bodyPost_ret (v := .tuple #[runv (.slice p1 16 cp1) (.slice p2 16 cp2) (.slice p3 16 cp3) la (.slice pw L.length cw) now, .bool true]) (by simp [results, Tryz.results12, go_sem, y0, y1, y2, y3, y4, y5]) rfl ?_
    have HR4 := HR3.out.below HB4.out
    exact HIN.out.fin HRO.out.pi HR4.pl HR4.dp HR4.row (Nat.le_succ _) (fun x q => .inl q) (.inr ⟨by omega, by omega⟩) (fun g e => ⟨.inl (HIN.out.rx g e), HIN.out.rs g e, by have := HIN.out.xw g (HIN.out.rx g e); omega, .inl e⟩) (by have h1 := HS3.out; have h2 := HB4.out.size; omega) (Keeps.of_below (bnext (bnext HBW1.out HBW3.out) HB4.out)) now
end Go.Proofs.YtedgchafligndaaGreat
