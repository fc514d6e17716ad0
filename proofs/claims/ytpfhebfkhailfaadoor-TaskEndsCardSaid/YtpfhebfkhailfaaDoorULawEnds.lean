/- The law TaskEnds: it answers true, whatever the input; no condition but what the rows' listed variables hold. -/
import Derived.Test.YtpfhebfkhailfaaDoorUEndT
import Derived.Deep.Quiet
import Derived.Deep.QuietTactic
import Derived.Deep.RegionWith
import Derived.Deep.CutRange
namespace Go.Proofs.YtpfhebfkhailfaaDoor
open Go.RowKit Go.Shelf Tsk

set_option maxHeartbeats 8000000 in
set_option maxRecDepth 100000 in
theorem ends_any (v : Value) (n : Nat) (f : Nat → Jb) (now : Int) (w : World) (hg : LaidAt w) (h : Jobs w v n f) (_ : n * 32 ≤ 140737488355328) :
    Calls Tryd.prog 7 #[v, .int .i64 now] w fun e w' => e = .returned (.bool true) ∧ Below w.heap.size w w' := by
  have HJ := Lib.hid h
  have HWK := Lib.hid (fun (W : World) (hb : Below w.heap.size w W) => works_any W (hg.below hb))
  obtain ⟨q, cap, rfl, hn63, _⟩ := h
  clear hg
  by_cases h8 : n ≤ 8
  · by_cases h0 : now < 0
    · have hd0 : decide (8 < (n : Int)) = false := decide_eq_false (by omega)
      have hd0' : decide (8 < n) = false := decide_eq_false (by omega)
      have hd1 : decide (now < 0) = true := decide_eq_true h0
      go_enter Tryd.func7, Tryd.ntmps7
      go_wp2_with fail
      refine (HWK.out _ (Below.refl _ _)).mono ?_
      rintro e wf ⟨rfl, hbf⟩
      have HBF := Lib.hid (bnext (Below.refl _ _) hbf)
      clear hbf
      go_wp2_with fail
      go_ret
      exact ⟨rfl, HBF.out⟩
    · by_cases h1 : 1048576 < now
      · have hd0 : decide (8 < (n : Int)) = false := decide_eq_false (by omega)
        have hd0' : decide (8 < n) = false := decide_eq_false (by omega)
        have hd1 : decide (now < 0) = false := decide_eq_false h0
        have hd2 : decide (1048576 < now) = true := decide_eq_true h1
        go_enter Tryd.func7, Tryd.ntmps7
        go_wp2_with fail
        refine (HWK.out _ (Below.refl _ _)).mono ?_
        rintro e wf ⟨rfl, hbf⟩
        have HBF := Lib.hid (bnext (Below.refl _ _) hbf)
        clear hbf
        go_wp2_with fail
        go_ret
        exact ⟨rfl, HBF.out⟩
      · have ht : 0 ≤ now ∧ now ≤ 1048576 := ⟨by omega, by omega⟩
        have hd0 : decide (8 < (n : Int)) = false := decide_eq_false (by omega)
        have hd0' : decide (8 < n) = false := decide_eq_false (by omega)
        have hd1 : decide (now < 0) = false := decide_eq_false (by omega)
        have hd2 : decide (1048576 < now) = false := decide_eq_false (by omega)
        go_enter Tryd.func7, Tryd.ntmps7
        go_wp2_with fail
        refine (pnew_ok 0 _ (by omega)).mono ?_
        rintro e w1 ⟨rfl, hb1⟩
        have HN0 := Lib.hid (show Now5 w w1.heap.size 0 (j0 f now) kZ (w1.alloc (.cells #[.int .i64 0, .slice none 0 0, .int .i64 0, .int .i64 0, .int .i64 0, .int .i64 0, .int .i64 0, .int .i64 0] KT)) from ⟨none, 0, hasT_new _ _ _ kZ, jobs_none _ _ _ _ _ rfl, hb1.alloc hb1.size _, hb1.size⟩)
        clear hb1
        go_wp2_with fail
        go_loopw [7] (fun iv wr => ∃ i : Nat, iv = .int .i64 i ∧ i ≤ n ∧ Hid (∀ j, j < i → okI (f j)) ∧ Hid (Now5 w w1.heap.size i (j0 f now) kZ wr)) (fun iv _ => n - (intOf iv).toNat)
        case atStart => exact ⟨0, rfl, Nat.zero_le _, fun j hj => absurd hj (Nat.not_lt_zero _), HN0⟩
        case round =>
          clear HN0
          obtain ⟨i, rfl, hi, HOK, HN⟩ := hrel
          by_cases him : i < n
          · have him' : (i : Int) < (n : Int) := by omega
            have HBr := Lib.hid (show Below w.heap.size w wr from by obtain ⟨_, _, _, _, hb, _⟩ := HN.out; exact hb)
            obtain ⟨q', cap', e, _, hc⟩ := HJ.out.below HBr.out
            cases e
            obtain ⟨b, off, rfl, c0, c1, c2, c3⟩ := hc i him
            clear hc
            obtain ⟨jb, hjb⟩ : ∃ jb, jb = f i := ⟨_, rfl⟩
            rw [← hjb] at c0 c1 c2 c3
            have HFI := Lib.hid hjb
            clear hjb
            obtain ⟨jl, jc, ja, jd⟩ := jb
            dsimp only at c0 c1 c2 c3
            by_cases x0 : jl < 1
            · have y0 : decide (jl < 1) = true := decide_eq_true x0
              go_wp2_with fail
              refine (HWK.out _ HBr.out).mono ?_
              rintro e wf ⟨rfl, hbf⟩
              have HBF := Lib.hid (bnext HBr.out hbf)
              clear hbf
              go_wp2_with fail
              go_ret
              exact ⟨rfl, HBF.out⟩
            · have y0 : decide (jl < 1) = false := decide_eq_false x0
              by_cases x1 : 60 < jl
              · have y1 : decide (60 < jl) = true := decide_eq_true x1
                go_wp2_with fail
                refine (HWK.out _ HBr.out).mono ?_
                rintro e wf ⟨rfl, hbf⟩
                have HBF := Lib.hid (bnext HBr.out hbf)
                clear hbf
                go_wp2_with fail
                go_ret
                exact ⟨rfl, HBF.out⟩
              · have y1 : decide (60 < jl) = false := decide_eq_false x1
                by_cases x2 : jc < 0
                · have y2 : decide (jc < 0) = true := decide_eq_true x2
                  go_wp2_with fail
                  refine (HWK.out _ HBr.out).mono ?_
                  rintro e wf ⟨rfl, hbf⟩
                  have HBF := Lib.hid (bnext HBr.out hbf)
                  clear hbf
                  go_wp2_with fail
                  go_ret
                  exact ⟨rfl, HBF.out⟩
                · have y2 : decide (jc < 0) = false := decide_eq_false x2
                  by_cases x3 : jd < 0
                  · have y3 : decide (jd < 0) = true := decide_eq_true x3
                    go_wp2_with fail
                    refine (HWK.out _ HBr.out).mono ?_
                    rintro e wf ⟨rfl, hbf⟩
                    have HBF := Lib.hid (bnext HBr.out hbf)
                    clear hbf
                    go_wp2_with fail
                    go_ret
                    exact ⟨rfl, HBF.out⟩
                  · have y3 : decide (jd < 0) = false := decide_eq_false x3
                    by_cases x4 : 1048576 < jd
                    · have y4 : decide (1048576 < jd) = true := decide_eq_true x4
                      go_wp2_with fail
                      refine (HWK.out _ HBr.out).mono ?_
                      rintro e wf ⟨rfl, hbf⟩
                      have HBF := Lib.hid (bnext HBr.out hbf)
                      clear hbf
                      go_wp2_with fail
                      go_ret
                      exact ⟨rfl, HBF.out⟩
                    · have y4 : decide (1048576 < jd) = false := decide_eq_false x4
                      by_cases x5 : 1048576 < jc
                      · have y5 : decide (1048576 < jc) = true := decide_eq_true x5
                        go_wp2_with fail
                        refine (HWK.out _ HBr.out).mono ?_
                        rintro e wf ⟨rfl, hbf⟩
                        have HBF := Lib.hid (bnext HBr.out hbf)
                        clear hbf
                        go_wp2_with fail
                        go_ret
                        exact ⟨rfl, HBF.out⟩
                      · have y5 : decide (1048576 < jc) = false := decide_eq_false x5
                        have hjb0 : okI ⟨jl, jc, ja, jd⟩ := by unfold okI; dsimp only; omega
                        have hjb : okI (f i) := by rw [← HFI.out]; exact hjb0
                        have HOK2 := Lib.hid (show ∀ j, j < i + 1 → okI (f j) from fun j hj => by
                          by_cases e : j = i
                          · subst e; exact hjb
                          · exact HOK.out j (by omega))
                        obtain ⟨s5, c5, hT5, hJ5, hB5, hl5⟩ := HN.out
                        have HPD := Lib.hid (push_a h8 him HOK.out hjb ht hT5 hB5 hl5 hJ5)
                        have HPA := Lib.hid (push_b h8 him HOK.out hjb ht hT5 hB5 hl5 hJ5)
                        rw [← HFI.out] at HPD HPA
                        obtain ⟨t0, t1, t2', t3, t4, t5, t6, t7⟩ := hT5.cells
                        have hbl : w1.heap.size < wr.heap.size := has_lt hT5
                        have hbj : b < wr.heap.size := cell_lt c0
                        clear hT5 hJ5 hB5 hjb hjb0
                        go_upto_region 9 with fail
                        go_cut [8, 9] from 96 to 105 (fun s8 s9 wx => s9 = .nilIface ∧ ∃ x, s8 = .pointer (some ⟨x, 0, none⟩) ∧ Hid (U9 w w1.heap.size x (i + 1) (j0 f now) kZ kZ wx))
                        case first =>
                          go_region_with ((go_at_call 22; first | (with_reducible refine HPD.out.mono ?_; rintro e w6 ⟨t2, c2, rfl, hE⟩) | (refine HPA.out.mono ?_; rintro e w6 ⟨t2, c2, rfl, hE, hx⟩; obtain ⟨g0, g1, g2, g3, g4, g5, g6, g7⟩ := hx.cells; have gf : ∀ j, w6.frozen? ⟨wr.heap.size, j, none⟩ = false := fun j => has_free hx j; have gl : wr.heap.size < w6.heap.size := has_lt hx)))
                          all_goals go_wp2_with fail
                          all_goals go_meet
                          all_goals (with_reducible exact ⟨rfl, _, rfl, hE⟩)
                        case rest =>
                          obtain ⟨W5, hW5⟩ : ∃ W5 : World, W5 = wc := ⟨_, rfl⟩
                          obtain ⟨rfl, x, rfl, HU⟩ := hcut
                          obtain ⟨t2, c2, hX, ⟨s5', hT5'⟩, af, al, hN⟩ := HU.out.put (by omega)
                          obtain ⟨b0, b1, b2, b3, b4, b5, b6, b7⟩ := hT5'.cells
                          obtain ⟨g0, g1, g2, g3, g4, g5, g6, g7⟩ := hX.cells
                          have HE := Lib.hid hN
                          clear HPD HPA HU hX hN hT5' t0 t1 t2' t3 t4 t5 t6 t7
                          go_wp2_with fail
                          go_roundw
                          case rel => exact ⟨i + 1, by go_num, by omega, HOK2, HE⟩
                          case measure => simp [intOf]; omega
          · have hg3 : decide (i < n) = false := decide_eq_false him
            obtain rfl : n = i := by omega
            clear him hi
            have HN2 := Lib.hid (start2 HN.out)
            clear HN
            go_wp2_with fail
            obtain ⟨wo, hwo⟩ : ∃ wo : World, wo = wr := ⟨_, rfl⟩
            subst hwo
            go_loopw [10, 11, 12] (fun av lv iv wr => ∃ (i : Nat) (k : Ac), iv = .int .i64 i ∧ av = .int .i64 (now + k.g) ∧ lv = .int .i64 k.t ∧ i ≤ n ∧ Hid (AcE i i (60 * i) k) ∧ Hid (Now5 w w1.heap.size (n - i) (fun j => j0 f now (i + j)) k wr)) (fun _ _ iv _ => n - (intOf iv).toNat)
            case atStart => exact ⟨0, kZ, rfl, congrArg (Value.int .i64) (show now = now + 0 by omega), rfl, Nat.zero_le _, Lib.hid acZ, HN2⟩
            case round =>
              clear HN2
              obtain ⟨wo2, hwo2⟩ : ∃ wo2 : World, wo2 = wr := ⟨_, rfl⟩
              subst hwo2
              obtain ⟨i, k, rfl, rfl, rfl, hi, HA, HN⟩ := hrel
              by_cases hin : i < n
              · have hin' : (i : Int) < (n : Int) := by omega
                have hfi := HOK.out i hin
                obtain ⟨jb, hjb⟩ : ∃ jb, jb = f i := ⟨_, rfl⟩
                obtain ⟨jl, jc, ja, jd⟩ := jb
                have hjb0 : okI ⟨jl, jc, ja, jd⟩ := by rw [hjb]; exact hfi
                have HFI := Lib.hid hjb
                obtain ⟨q', cap', e, _, hc⟩ := HJ.out
                cases e
                obtain ⟨b, off, rfl, c0, c1, c2, c3⟩ := hc i hin
                rw [← hjb] at c0 c1 c2 c3
                dsimp only at c0 c1 c2 c3
                have hbj : b < w.heap.size := cell_lt c0
                have HCE := Lib.hid (fun (W : World) (hb : Below w.heap.size w W) => And.intro ((hb.cell (p := ⟨b, off + i * 4, none⟩) hbj).trans c0) (And.intro ((hb.cell (p := ⟨b, off + i * 4 + 1, none⟩) hbj).trans c1) ((hb.cell (p := ⟨b, off + i * 4 + 3, none⟩) hbj).trans c3)))
                clear hc c0 c1 c2 c3 hjb
                obtain ⟨⟨l0, l1⟩, ⟨p0, p1⟩, ⟨d0, d1⟩⟩ := hjb0
                dsimp only at l0 l1 p0 p1 d0 d1
                have hd := need_le hfi
                have HNE := Lib.hid (start3 (now := now) hd.1 HN.out)
                have HAE := Lib.hid (startA hd.1 HA.out)
                obtain ⟨c0, c1, c3⟩ := HCE.out _ HN.out.bel
                go_upto_region 18 with fail
                go_cut [139] from 121 to 139 (fun cv wx => ∃ B, cv = .bool B ∧ Hid (B = decide (0 < jc ∧ jc < jl)) ∧ Hid (Now5 w w1.heap.size (nE f n i 0) (fE f now i 0) k wx))
                case first =>
                  by_cases x1 : 0 < jc
                  · have y1 : decide (0 < jc) = true := decide_eq_true x1
                    by_cases x2 : jc < jl
                    · have y2 : decide (jc < jl) = true := decide_eq_true x2
                      go_wp2_with fail
                      go_quiet (fail)
                      go_wp2_with fail
                      go_meet
                      exact ⟨true, rfl, Lib.hid (decide_eq_true ⟨x1, x2⟩).symm, Lib.hid (HNE.out.under (below_drewN (Below.refl _ _) _))⟩
                    · have y2 : decide (jc < jl) = false := decide_eq_false x2
                      go_wp2_with fail
                      go_quiet (fail)
                      go_wp2_with fail
                      go_meet
                      exact ⟨false, rfl, Lib.hid (decide_eq_false (by omega)).symm, Lib.hid (HNE.out.under (below_drewN (Below.refl _ _) _))⟩
                  · have y1 : decide (0 < jc) = false := decide_eq_false x1
                    go_wp2_with fail
                    go_quiet (fail)
                    go_wp2_with fail
                    go_meet
                    exact ⟨false, rfl, Lib.hid (decide_eq_false (by omega)).symm, Lib.hid (HNE.out.under (below_drewN (Below.refl _ _) _))⟩
                case rest =>
                  obtain ⟨B, rfl, HBV, HN3⟩ := hcut
                  clear c0 c1 c3
                  obtain ⟨wp, hwp⟩ : ∃ wp : World, wp = wc := ⟨_, rfl⟩
                  subst hwp
                  go_upto_if 139 with fail
                  go_cut [13, 14] from 140 to 144 (fun s13 s14 wx => s13 = .int .i64 (need (f i)) ∧ s14 = .int .i64 (endE (f i)) ∧ Hid (Now5 w w1.heap.size (nE f n i 0) (fE f now i 0) k wx))
                  case first =>
                    obtain ⟨c0, c1, c3⟩ := HCE.out _ HN3.out.bel
                    cases B
                    · have hno : ¬ (0 < jc ∧ jc < jl) := of_decide_eq_false HBV.out.symm
                      have z1 : need (f i) = jl := by rw [← HFI.out]; exact if_neg hno
                      have z2 : endE (f i) = 1 := by rw [← HFI.out]; exact if_neg hno
                      clear hno
                      go_wp2_with fail
                      go_meet
                      exact ⟨congrArg (Value.int .i64) z1.symm, congrArg (Value.int .i64) z2.symm, HN3⟩
                    · have hyes : 0 < jc ∧ jc < jl := of_decide_eq_true HBV.out.symm
                      have z1 : need (f i) = jc := by rw [← HFI.out]; exact if_pos hyes
                      have z2 : endE (f i) = 2 := by rw [← HFI.out]; exact if_pos hyes
                      clear hyes
                      go_wp2_with fail
                      go_meet
                      exact ⟨congrArg (Value.int .i64) z1.symm, congrArg (Value.int .i64) z2.symm, HN3⟩
                  case rest =>
                    clear HN3
                    obtain ⟨rfl, rfl, HN3⟩ := hcut
                    clear HNE HN HA HBV
                    obtain ⟨wp, hwp⟩ : ∃ wp : World, wp = wc := ⟨_, rfl⟩
                    subst hwp
                    go_wp2_with fail
                    go_loopw [10, 11, 15] (fun av lv kv wr => ∃ (s m : Int) (k : Ac), kv = .int .i64 m ∧ Hid (m = s + 1) ∧ av = .int .i64 (now + k.g) ∧ lv = .int .i64 k.t ∧ 0 ≤ s ∧ s ≤ need (f i) ∧ Hid (AcE (eE f i s) (i + s) (60 * i + s) k) ∧ Hid (Now5 w w1.heap.size (nE f n i s) (fE f now i s) k wr)) (fun _ _ kv _ => (need (f i) + 1 - intOf kv).toNat)
                    case atStart => exact ⟨0, 1, k, rfl, Lib.hid rfl, rfl, rfl, Int.le_refl 0, by omega, HAE, HN3⟩
                    case round =>
                      clear HN3 HAE
                      obtain ⟨wq, hwq⟩ : ∃ wq : World, wq = wr := ⟨_, rfl⟩
                      subst hwq
                      obtain ⟨s, m, k, rfl, HM, rfl, rfl, hs0, hs1, HA3, HN3⟩ := hrel
                      have hmm := HM.out
                      have hkg : 0 ≤ k.g ∧ k.g ≤ 1000 := by
                        obtain ⟨_, _, _, _, _, _, _, h8, h9⟩ := HA3.out
                        exact ⟨by omega, by omega⟩
                      have hkt : 0 ≤ k.t ∧ k.t ≤ 1000 := by
                        obtain ⟨_, _, _, _, _, h6, h7, h8, h9⟩ := HA3.out
                        exact ⟨h6, by unfold eE at h7; split at h7 <;> omega⟩
                      by_cases hsn : s < need (f i)
                      · have z0 : decide (m ≤ need (f i)) = true := decide_eq_true (by omega)
                        have hmn : 1 ≤ m ∧ m ≤ 60 := by omega
                        clear hmm
                        obtain ⟨K, X, L, wk, hK, hKg, hKt, hL, hX, hwk, hR, hW1, hW2, hV⟩ := run_step h8 hin HOK.out ht hs0 hsn HA3.out
                        obtain ⟨s5, c5, hT5, hJ5, hB5, hl5⟩ := HN3.out
                        have HRU := Lib.hid (fun (W : World) (hb : Below wq.heap.size wq W) => hR W _ (hJ5.below hb))
                        have HW1 := Lib.hid (hW1 wq _ hJ5)
                        have HW2 := Lib.hid hW2
                        have HVA := Lib.hid hV
                        have HKA := Lib.hid hK
                        have HKT := Lib.hid hKt
                        have HL := Lib.hid hL
                        have HX := Lib.hid hX
                        have HT5 := Lib.hid hT5
                        have HB5 := Lib.hid hB5
                        have HKG := Lib.hid hKg
                        obtain ⟨hwk0, hwk1⟩ := hwk
                        obtain ⟨t0, t1, t2', t3, t4, t5, t6, t7⟩ := hT5.cells
                        have hL0 : 0 ≤ L ∧ L ≤ 2097152 := by
                          rw [hL]
                          split <;> omega
                        clear hR hW1 hW2 hV hK hKt hL hX hJ5 hT5 hB5 HN3 HA3 hKg
                        go_wp2_with fail
                        refine HW1.out.mono ?_
                        rintro e wa ⟨rfl, hba⟩
                        have HBA := Lib.hid hba
                        clear t0 t1 t2' t3 t4 t5 t6 t7 HW1
                        obtain ⟨t0, t1, t2', t3, t4, t5, t6, t7⟩ := (HT5.out.below hba).cells
                        clear hba
                        go_wp2_with fail
                        refine (HRU.out _ HBA.out).mono ?_
                        rintro e w6 ⟨t, c, rfl, ho6, hb6⟩
                        clear t0 t1 t2' t3 t4 t5 t6 t7 HRU
                        generalize hNN : nE f n i (s + 1) = NN at *
                        have hNN63 : NN ≤ 8 := by rw [← hNN]; unfold nE; split <;> omega
                        have HNN := Lib.hid hNN
                        clear hNN
                        obtain ⟨W3, hW3⟩ : ∃ W3, W3 = w6.alloc (.cells #[.int .i64 0, .slice t NN c, .int .i64 K.g, .int .i64 K.o, .int .i64 K.n, .int .i64 K.d, .int .i64 K.c, .int .i64 K.t] KT) := ⟨_, rfl⟩
                        have HU := Lib.hid (show U9 w w1.heap.size w6.heap.size NN (fE f now i (s + 1)) k K W3 from by
                          rw [hW3]; exact U9.a HT5.out HB5.out hl5 (own_base2 ho6 HBA.out.size) (bnext HBA.out hb6))
                        have HJ3 := Lib.hid (show Jobs W3 (.slice t NN c) NN (fE f now i (s + 1)) from by
                          rw [hW3]; exact own_jobs (own_under ho6 ((Below.refl _ _).alloc (Nat.le_refl _) _)) (by omega))
                        have HX3 := Lib.hid (show HasT W3 w6.heap.size 0 (.slice t NN c) K from by rw [hW3]; exact hasT_new _ _ _ K)
                        have HB3 := Lib.hid (show Below w.heap.size w W3 from by
                          obtain ⟨_, _, _, _, _, _, _, _, h, _⟩ := HU.out; exact h)
                        have HW3 := Lib.hid hW3
                        clear hW3 ho6 hb6 HB5 HT5
                        go_upto_region 28 with fail
                        rw [← HW3.out]
                        clear HW3
                        obtain ⟨c0, c1, c3⟩ := HCE.out _ HB3.out
                        generalize w6.heap.size = x at *
                        go_cut [172] from 162 to 172 (fun cv wx => ∃ B, cv = .bool B ∧ Hid (B = decide (m = need (f i) ∧ 0 < jd)) ∧ wx = W3)
                        case first =>
                          by_cases e1 : m = need (f i)
                          · subst e1
                            by_cases e2 : 0 < jd
                            · have e2' : decide (0 < jd) = true := decide_eq_true e2
                              go_wp2_with fail
                              go_meet
                              exact ⟨true, rfl, Lib.hid (decide_eq_true ⟨trivial, e2⟩).symm, rfl⟩
                            · have e2' : decide (0 < jd) = false := decide_eq_false e2
                              go_wp2_with fail
                              go_meet
                              exact ⟨false, rfl, Lib.hid (decide_eq_false (by omega)).symm, rfl⟩
                          · have e1' : decide (m = need (f i)) = false := decide_eq_false e1
                            go_wp2_with fail
                            go_meet
                            exact ⟨false, rfl, Lib.hid (decide_eq_false (by omega)).symm, rfl⟩
                        case rest =>
                          obtain ⟨B, rfl, HBV, hwc⟩ := hcut
                          subst hwc
                          go_upto_if 172 with fail
                          go_cut [21] from 173 to 182 (fun s21 wx => s21 = .int .i64 L ∧ wx = wc)
                          case first =>
                            cases B
                            · have hno : ¬ (s + 1 = need (f i) ∧ 0 < (f i).d) := by
                                have h : ¬ (m = need (f i) ∧ 0 < jd) := of_decide_eq_false HBV.out.symm
                                rw [HM.out] at h
                                rw [← HFI.out]
                                rw [← HFI.out] at h
                                exact h
                              have zL : L = 0 := by rw [HL.out, if_neg hno]
                              clear hno
                              go_wp2_with fail
                              go_meet
                              exact ⟨congrArg (Value.int .i64) zL.symm, rfl⟩
                            · have hyes : s + 1 = need (f i) ∧ 0 < (f i).d := by
                                have h : m = need (f i) ∧ 0 < jd := of_decide_eq_true HBV.out.symm
                                rw [HM.out] at h
                                rw [← HFI.out]
                                rw [← HFI.out] at h
                                exact h
                              have zL : L = max 0 (now + k.g + 1 - now - jd) := by rw [HL.out, if_pos hyes, ← HFI.out]
                              clear hyes
                              go_wp2_with fail
                              go_meet
                              exact ⟨congrArg (Value.int .i64) zL.symm, rfl⟩
                          case rest =>
                            obtain ⟨rfl, hwc⟩ := hcut
                            subst hwc
                            clear c0 c1 c3
                            go_upto_region 30 with fail
                            go_cut [219] from 183 to 219 (fun cv wx => cv = .bool false ∧ Hid (U9 w w1.heap.size x NN (fE f now i (s + 1)) k K wx))
                            case first =>
                              obtain ⟨x0, x1, x2, x3, x4, x5, x6, x7⟩ := HX3.out.cells
                              by_cases e1 : m = need (f i)
                              · have hE := endE_ne (f i)
                                have hXE : X = endE (f i) := by rw [HX.out, ← HM.out, if_pos e1]
                                subst hXE
                                have hE1 : decide (endE (f i) = 0) = false := decide_eq_false hE
                                have hE2 : (endE (f i) == 0) = false := by rw [beq_eq_false_iff_ne]; exact hE
                                have hE3 : (endE (f i) != 0) = true := by rw [bne_iff_ne]; exact hE
                                have HM' := Lib.hid HM.out
                                subst e1
                                go_wp2_with fail
                                refine (HW2.out _ _ HJ3.out).mono ?_
                                rintro e wd ⟨rfl, hbd⟩
                                clear x0 x1 x2 x3 x4 x5 x6 x7
                                obtain ⟨x0, x1, x2, x3, x4, x5, x6, x7⟩ := (HX3.out.below hbd).cells
                                go_wp2_with fail
                                refine (HVA.out _ _ (HJ3.out.below hbd)).mono ?_
                                rintro e we ⟨rfl, hbe⟩
                                go_wp2_with fail
                                go_meet
                                exact ⟨rfl, Lib.hid (HU.out.below (bnext hbd hbe))⟩
                              · have e1' : decide (m = need (f i)) = false := decide_eq_false e1
                                have e1b : (m == need (f i)) = false := by rw [beq_eq_false_iff_ne]; exact e1
                                have hXE : X = 0 := by rw [HX.out, ← HM.out, if_neg e1]
                                subst hXE
                                go_wp2_with fail
                                refine (HW2.out _ _ HJ3.out).mono ?_
                                rintro e wd ⟨rfl, hbd⟩
                                clear x0 x1 x2 x3 x4 x5 x6 x7
                                obtain ⟨x0, x1, x2, x3, x4, x5, x6, x7⟩ := (HX3.out.below hbd).cells
                                go_wp2_with fail
                                refine (HVA.out _ _ (HJ3.out.below hbd)).mono ?_
                                rintro e we ⟨rfl, hbe⟩
                                go_wp2_with fail
                                go_meet
                                exact ⟨rfl, Lib.hid (HU.out.below (bnext hbd hbe))⟩
                            case rest =>
                              obtain ⟨rfl, HU9⟩ := hcut
                              clear HU HJ3 HX3 HB3 HW2 HVA HX HL
                              obtain ⟨W5, hW5⟩ : ∃ W5 : World, W5 = wc := ⟨_, rfl⟩
                              obtain ⟨t2, c2, hX, ⟨s5', hT5'⟩, af, al, hN⟩ := HU9.out.put (by omega)
                              obtain ⟨g0, g1, g2, g3, g4, g5, g6, g7⟩ := hX.cells
                              obtain ⟨b0, b1, b2, b3, b4, b5, b6, b7⟩ := hT5'.cells
                              have HE := Lib.hid hN
                              clear hX hN hT5' HU9
                              by_cases e3 : 0 < L
                              · have e3' : decide (0 < L) = true := decide_eq_true e3
                                go_wp2_with fail
                                go_roundw
                                case rel => exact ⟨s + 1, m + 1, K, rfl, Lib.hid (by rw [HM.out]), congrArg (Value.int .i64) (by rw [HKG.out]; omega), congrArg (Value.int .i64) (by rw [HKT.out, if_pos e3]), by omega, by omega, HKA, by rw [HNN.out]; exact HE⟩
                                case measure => have hmm := HM.out; simp [intOf]; omega
                              · have e3' : decide (0 < L) = false := decide_eq_false e3
                                go_wp2_with fail
                                go_roundw
                                case rel => exact ⟨s + 1, m + 1, K, rfl, Lib.hid (by rw [HM.out]), congrArg (Value.int .i64) (by rw [HKG.out]; omega), congrArg (Value.int .i64) (by rw [HKT.out, if_neg e3]), by omega, by omega, HKA, by rw [HNN.out]; exact HE⟩
                                case measure => have hmm := HM.out; simp [intOf]; omega
                      · have z0 : decide (m ≤ need (f i)) = false := decide_eq_false (by omega)
                        clear hmm
                        have HA4 := Lib.hid (finA hsn hs1 hfi HA3.out)
                        have HN4 := Lib.hid (fin3 hsn HN3.out)
                        clear HA3 HN3
                        go_wp2_with fail
                        go_roundw
                        case rel => exact ⟨i + 1, k, by go_num, rfl, rfl, by omega, HA4, HN4⟩
                        case measure => simp [intOf]; omega
              · have hg4 : decide (i < n) = false := decide_eq_false hin
                obtain rfl : n = i := by omega
                clear hin hi
                obtain ⟨kg, ko, kn, kd, kc, kt⟩ := k
                have ek1 : ko = kg := HA.out.1
                have ek2 : kn = 0 := HA.out.2.1
                subst ek1 ek2
                obtain ⟨s5, c5, hT5, hJ5, hB5, hl5⟩ := HN.out
                rw [Nat.sub_self] at hT5 hJ5
                have HT5 := Lib.hid hT5
                have HB5 := Lib.hid hB5
                have HRU := Lib.hid ((none_end h8 ht HA.out wo2 _ hJ5).1)
                have HWO := Lib.hid (fun (W : World) (hb : Below wo2.heap.size wo2 W) => (none_end h8 ht HA.out W _ (hJ5.below hb)).2)
                have HRD := Lib.hid (fun (W : World) => pready 0 s5 0 c5 ⟨ko, ko, 0, kd, kc, kt⟩ W)
                have hAA := HA.out
                obtain ⟨a1, a2, a3, a4, a5, a6, a7, a8, a9⟩ := hAA
                dsimp only at a1 a2 a3 a4 a5 a6 a7 a8 a9
                have hg1 : now + ko - now = ko := by omega
                have hkg : 0 ≤ ko ∧ ko ≤ 1000 := ⟨by omega, by omega⟩
                have hkd : kd ≤ 1000 ∧ kc ≤ 1000 := ⟨by omega, by omega⟩
                clear a1 a2 a6 a7 a8 a9
                obtain ⟨t0, t1, t2', t3, t4, t5, t6, t7⟩ := hT5.cells
                clear hT5 hJ5 hB5 HN HA
                go_wp2_with fail
                refine HRU.out.mono ?_
                rintro e w6 ⟨t, c, rfl, hb6⟩
                clear t0 t1 t2' t3 t4 t5 t6 t7 HRU
                have T6 := HT5.out.below hb6
                have hl6 : w1.heap.size < w6.heap.size := has_lt T6
                obtain ⟨t0, t1, t2', t3, t4, t5, t6, t7⟩ := T6.cells
                have HB6 := Lib.hid hb6
                clear hb6 T6
                obtain ⟨W3, hW3⟩ : ∃ W3, W3 = w6.alloc (.cells #[.int .i64 0, .slice t 0 c, .int .i64 0, .int .i64 0, .int .i64 0, .int .i64 0, .int .i64 0, .int .i64 0] KT) := ⟨_, rfl⟩
                obtain ⟨W4, hW4⟩ : ∃ W4, W4 = W3.alloc (.cells #[.int .i64 ko, .int .i64 ko, .int .i64 0, .int .i64 kd, .int .i64 kc, .int .i64 kt] 24) := ⟨_, rfl⟩
                have hb4 : Below w6.heap.size w6 W4 := by
                  rw [hW4, hW3]
                  have h3 : Below w6.heap.size w6 (w6.alloc (.cells #[.int .i64 0, .slice t 0 c, .int .i64 0, .int .i64 0, .int .i64 0, .int .i64 0, .int .i64 0, .int .i64 0] KT)) := (Below.refl _ _).alloc (Nat.le_refl _) _
                  exact h3.alloc h3.size _
                have HB4 := Lib.hid (bnext HB6.out hb4)
                have hsz : W3.heap.size = w6.heap.size + 1 := by rw [hW3]; simp
                have HA4 := Lib.hid (show HasA W4 (w6.heap.size + 1) ⟨ko, ko, 0, kd, kc, kt⟩ from by rw [hW4, ← hsz]; exact hasA_new _ ⟨ko, ko, 0, kd, kc, kt⟩)
                have HT4 := Lib.hid ((HT5.out.below HB6.out).below hb4)
                have HW3 := Lib.hid hW3
                have HW4 := Lib.hid hW4
                clear hW3 hW4 hb4 hsz
                go_upto_region 37 with fail
                rw [← HW3.out, ← HW4.out]
                clear HW3 HW4 t0 t1 t2' t3 t4 t5 t6 t7 hl6
                obtain ⟨t0, t1, t2', t3, t4, t5, t6, t7⟩ := HT4.out.cells
                obtain ⟨y0, y1, y2, y3, y4, y5⟩ := HA4.out.cells
                go_wp2_with fail
                refine (num_errV 50 _).mono ?_
                rintro e w7 ⟨rfl, hw7⟩
                subst hw7
                go_wp2_with fail
                refine (HRD.out _).mono ?_
                rintro e w8 ⟨rfl, hb8⟩
                clear t0 t1 t2' t3 t4 t5 t6 t7 y0 y1 y2 y3 y4 y5
                have HB8 := Lib.hid (bnext HB4.out hb8)
                have HT8 := Lib.hid (HT4.out.below hb8)
                have HA8 := Lib.hid (HA4.out.below hb8)
                clear hb8 HB4 HT4 HA4
                obtain ⟨t0, t1, t2', t3, t4, t5, t6, t7⟩ := HT8.out.cells
                obtain ⟨y0, y1, y2, y3, y4, y5⟩ := HA8.out.cells
                go_wp2_with fail
                refine (HWO.out _ HB8.out).mono ?_
                rintro e w9 ⟨rfl, hb9⟩
                clear t0 t1 t2' t3 t4 t5 t6 t7 y0 y1 y2 y3 y4 y5
                have HB9 := Lib.hid (bnext HB8.out hb9)
                obtain ⟨y0, y1, y2, y3, y4, y5⟩ := (HA8.out.below hb9).cells
                clear hb9 HB8 HT8 HA8
                go_wp2_with fail
                refine (HWK.out _ (bnext HB5.out HB9.out)).mono ?_
                rintro e wf ⟨rfl, hbf⟩
                have HBF := Lib.hid (bnext (bnext HB5.out HB9.out) hbf)
                clear hbf
                go_wp2_with fail
                go_ret
                exact ⟨rfl, HBF.out⟩
  · have hd0 : decide (8 < (n : Int)) = true := decide_eq_true (by omega)
    have hd0' : decide (8 < n) = true := decide_eq_true (by omega)
    go_enter Tryd.func7, Tryd.ntmps7
    go_wp2_with fail
    refine (HWK.out _ (Below.refl _ _)).mono ?_
    rintro e wf ⟨rfl, hbf⟩
    have HBF := Lib.hid (bnext (Below.refl _ _) hbf)
    clear hbf
    go_wp2_with fail
    go_ret
    exact ⟨rfl, HBF.out⟩
end Go.Proofs.YtpfhebfkhailfaaDoor
