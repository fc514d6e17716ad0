/- The walk of EdfLiuLayland: whatever the items and the number, it answers true; no condition but that the items are at most 2^47 bytes. -/
import Derived.Test.YtfahpjilgdlhiaaWLawStretch
import Derived.Test.YtfahpjilgdlhiaaWLoad
namespace Go.Proofs.Ytfahpjilgdlhiaa
open Go.RowKit Edf

theorem undrew {w w' : World} (h : Below w.drew.heap.size w.drew w') : Below w.heap.size w w' := ⟨h.os, h.tape, h.output, h.size, h.block⟩
theorem sumZ_N {I : Nat → It} (hB : ∀ i, ItB (I i)) : ∀ n, sumZ (shZ I) n = (sumN (fun i => (shZ I i).toNat) n : Nat)
  | 0 => rfl
  | n + 1 => by
    have h : 0 ≤ shZ I n := (shZ_bd (hB n)).1
    simp only [sumZ, sumN]
    rw [sumZ_N hB n]
    omega
theorem liu {I : Nat → It} (hB : ∀ i, ItB (I i)) {n N : Nat} (h : sumZ (shZ I) n ≤ 1048576) : Meets I n N (plz I n) :=
  edf_meets (fun i => (hB i).ok) fun a b _ _ => load_dem (fun i => (hB i).ok) (fun i => (shZ I i).toNat) (U := 1048576) (by omega) (fun i _ => by
    obtain ⟨h1, _, h3⟩ := shZ_bd (hB i)
    have e : shZ I i = shareOf (I i).q (I i).p := rfl
    rw [← e] at h1 h3
    have h4 : (((I i).q * 1048576 : Nat) : Int) ≤ (((shZ I i).toNat * (I i).p : Nat) : Int) := by
      have e2 : (((shZ I i).toNat : Nat) : Int) = shZ I i := Int.toNat_of_nonneg h1
      rw [Int.natCast_mul, Int.natCast_mul, e2]
      exact h3
    omega) (by rw [sumZ_N hB] at h; omega)
set_option maxHeartbeats 4000000 in
set_option maxRecDepth 100000 in
theorem liu_any (w : World) (v : Value) (n : Nat) (f : Nat → Tri) (b : Int) (h : Tris w v n f) (hn : n * 24 ≤ 140737488355328) : Calls Try.prog 7 #[v, .int .i64 b] w fun e w' => e = .returned (.bool true) ∧ Below w.heap.size w w' := by
  obtain ⟨N, hN41, m1', m2', m3', m4', m5'⟩ := mod_nat b 500 (by omega) (by omega)
  have m1 : (b.tmod 500 + 500).tmod 500 = (N : Int) := m1'
  have m2 : (b.tmod 500 + 500) % 500 = (N : Int) := m2'
  have m3 : IntKind.i64.wrap (b.tmod 500 + 500) = b.tmod 500 + 500 := m3'
  have m4 : -500 < b.tmod 500 := m4'
  have m5 : b.tmod 500 < 500 := m5'
  clear m1' m2' m3' m4' m5'
  have HW := Lib.hid (fun w => works_any w)
  have hn2 : n ≤ 9223372036854775807 := by omega
  have HI := Lib.hid (fun W (hb : Below w.heap.size w W) => items_any W v n f (h.below hb) hn)
  have HP := Lib.hid (fun W u hu => plan_any W u n f hu (N : Nat))
  have e3 : pE n f (N : Nat) = vE n f := if_pos ⟨by omega, by omega⟩
  rw [e3] at HP
  by_cases h0 : vE n f = 0
  · obtain ⟨h64, hB, hI⟩ := vE_ok h0
    have e5 : pN n f (N : Nat) = N := by unfold pN; rw [if_pos (e3.trans h0)]; exact Int.toNat_natCast N
    rw [h0, e5] at HP
    have HL := Lib.hid (fun W u hu => load_ok W u n f hu h0)
    have e6 := mE_plz (f := f) (show N ≤ 4096 by omega) h0 (pOk_plz (itI n f) n N)
    obtain ⟨e7, e8⟩ := mG_0 e6
    have HM := Lib.hid (fun W u hu p0 cap0 hp hc => missed_any W u n f hu p0 N cap0 (plz (itI n f) n) hp hc)
    rw [e6, e7, e8] at HM
    have h' : Tris w v n (fun i => ofIt (itI n f i)) := h.congr hI
    generalize itI n f = I at *
    by_cases hL : sumZ (shZ I) n ≤ 1048576
    · have hme := liu hB (N := N) hL
      have hsb := (meets_iff hB).2 hme
      have HS := Lib.hid (fun w u hu => some_any w u n (mV I N (plz I n)) hu)
      rw [hsb] at HS
      have HEX := Lib.hid (fun i k (hi : i < n) hk => edf_exact (fun i => (hB i).ok) hme (i := i) (k := k) hi hk)
      have HV := Lib.hid (fun W (hb : Below w.heap.size w W) => h'.below hb)
      have HIB := Lib.hid hB
      have HLG := Lib.hid (fun i T hT hT2 w => lag_zero (I i) (hB i) T hT hT2 w)
      obtain ⟨p0, cap0, rfl, _, _⟩ := h'
      generalize sumZ (shZ I) n = LL at *
      generalize mV I N (plz I n) = mv at *
      generalize plz I n = pz at *
      clear h h0 e3 e5 e6 e7 e8 hI hB hme hsb
      go_enter Try.func7, Try.ntmps7
      go_wp2_with fail
      refine (HI.out _ (Below.refl _ _)).mono ?_
      rintro e w1 ⟨u1, rfl, ho1, hb1⟩
      have HT1 := Lib.hid (own_tris ho1 hn2)
      have HB1 := Lib.hid hb1
      clear ho1 hb1
      go_wp2_with fail
      refine (HL.out _ _ HT1.out).mono ?_
      rintro e w2 ⟨rfl, hb2⟩
      have HB2 := Lib.hid (bnext HB1.out hb2)
      clear hb2 HT1
      go_wp2_with fail
      refine (HI.out _ HB2.out).mono ?_
      rintro e w3 ⟨u3, rfl, ho3, hb3⟩
      have HT3 := Lib.hid (own_tris ho3 hn2)
      have HB3 := Lib.hid (bnext HB2.out hb3)
      clear ho3 hb3
      go_wp2_with fail
      refine (HP.out _ _ HT3.out).mono ?_
      intro e w4 hpost
      obtain ⟨p4, cap4, rfl, ho4, hn4, hb4⟩ := hpost.one (by omega)
      rw [errV_0]
      have hcap4 : N ≤ cap4 := by obtain ⟨_, _, e, hc⟩ := own_small ho4; cases e; exact hc
      have HN4 := Lib.hid hn4
      have HB4 := Lib.hid (bnext HB3.out hb4)
      clear hpost ho4 hn4 hb4 HT3
      go_wp2_with fail
      refine (HI.out _ HB4.out).mono ?_
      rintro e w5 ⟨u5, rfl, ho5, hb5⟩
      have HT5 := Lib.hid (own_tris ho5 hn2)
      have HN5 := Lib.hid (HN4.out.below hb5)
      have HB5 := Lib.hid (bnext HB4.out hb5)
      clear ho5 hb5 HN4
      go_wp2_with fail
      refine (HM.out _ _ HT5.out p4 cap4 HN5.out hcap4).mono ?_
      intro e w6 hpost
      obtain ⟨p6, cap6, rfl, _, hn6, hb6⟩ := hpost.one hn2
      rw [errV_0]
      have HN6 := Lib.hid hn6
      have HNP := Lib.hid (HN5.out.below hb6)
      have HB6 := Lib.hid (bnext HB5.out hb6)
      clear hpost hn6 hb6 HN5 HT5
      go_wp2_with fail
      refine (HS.out _ _ HN6.out).mono ?_
      rintro e w7 ⟨rfl, hw7⟩
      subst hw7
      clear HN6
      have HNPW := Lib.hid (fun W (hb : Below w6.heap.size w6 W) => HNP.out.below hb)
      clear HNP
      go_wp2_with fail
      go_loopw [11] (fun iv wr => ∃ (k : Nat), k ≤ n ∧ iv = .int .i64 k ∧ Hid (Below w6.heap.size w6 wr)) (fun iv _ => n - (intOf iv).toNat)
      case atStart => exact ⟨0, Nat.zero_le _, rfl, Lib.hid (Below.refl _ _)⟩
      case round =>
        obtain ⟨k2, hk2, rfl, HB⟩ := hrel
        obtain ⟨wo, hwo⟩ : ∃ wo : World, wo = wr := ⟨_, rfl⟩
        subst hwo
        by_cases hlt : k2 < n
        · have hlt' : (k2 : Int) < (n : Int) := by omega
          have k0 : (0 : Int) ≤ (k2 : Int) := by omega
          obtain ⟨bb, off, _, hsl, c0, c1, c2⟩ := its_at (HV.out wo (bnext HB6.out HB.out)) k2 hlt
          injection hsl with hs1 hs2' hs3
          subst hs1 hs3
          clear hs2'
          have HEXk := Lib.hid (fun k => HEX.out k2 k hlt)
          have HLGk := Lib.hid (HLG.out k2)
          have hq1 := (HIB.out k2).q1
          have hqp := (HIB.out k2).qp
          have hp2 := (HIB.out k2).p2
          have hs2 := (HIB.out k2).s2
          have hp1 : 1 ≤ (I k2).p := by omega
          have HPI := Lib.hid (fun k => per_iff (I k2) hp1 (N := N) (k := k))
          have HPL := Lib.hid (per_le (I k2) N)
          generalize per (I k2) N = P at *
          generalize I k2 = x at *
          obtain ⟨q, p, s⟩ := x
          simp only at *
          go_upto_region 15 with fail
          generalize hW0 : wo.alloc (.cells #[.int .i64 (q : Nat), .int .i64 (p : Nat), .int .i64 (s : Nat)] 63) = W0
          obtain ⟨hb0, hs0, o0, o1, o2⟩ := new3 wo q p s _ _ hW0.symm
          clear hW0 c0 c1 c2
          have HB0 := Lib.hid (bnext HB.out hb0)
          have HX := Lib.hid (show ∀ W, Below W0.heap.size W0 W → (W.cell? ⟨wo.heap.size, 0, none⟩ = some (.int .i64 (q : Nat)) ∧ W.cell? ⟨wo.heap.size, 1, none⟩ = some (.int .i64 (p : Nat)) ∧ W.cell? ⟨wo.heap.size, 2, none⟩ = some (.int .i64 (s : Nat))) from fun W hb =>
            ⟨(hb.cell (p := ⟨wo.heap.size, 0, none⟩) hs0).trans o0, (hb.cell (p := ⟨wo.heap.size, 1, none⟩) hs0).trans o1, (hb.cell (p := ⟨wo.heap.size, 2, none⟩) hs0).trans o2⟩)
          clear hb0
          generalize wo.heap.size = X at *
          go_wp2_with fail
          clear o0 o1 o2
          go_loopw [13] (fun iv wr => ∃ (k : Nat), k ≤ P ∧ iv = .int .i64 ((s + k * p : Nat) : Int) ∧ Hid (Below W0.heap.size W0 wr)) (fun iv _ => N + 1 - (intOf iv).toNat)
          case atStart => exact ⟨0, Nat.zero_le _, by rw [Nat.zero_mul]; rfl, Lib.hid (Below.refl _ _)⟩
          case round =>
            obtain ⟨k3, hk3, rfl, HBr⟩ := hrel
            obtain ⟨o0, o1, o2⟩ := HX.out wr HBr.out
            obtain ⟨wp, hwp⟩ : ∃ wp : World, wp = wr := ⟨_, rfl⟩
            subst hwp
            have hPN := HPL.out
            have hk4 : s + k3 * p ≤ N + s := by
              by_cases e : k3 = 0
              · subst e; simp
              · have h := (HPI.out (k3 - 1)).1 (by omega)
                have h2 : k3 * p = (k3 - 1) * p + p := by rw [← Nat.succ_mul]; congr 1; omega
                omega
            by_cases hlt3 : k3 < P
            · have hfit := (HPI.out k3).1 hlt3
              have HST := Lib.hid (show s + (k3 + 1) * p = s + k3 * p + p by rw [Nat.add_mul]; omega)
              have HC := Lib.hid (HEXk.out k3 hfit)
              have hsN : s + p ≤ N := by have : 0 ≤ k3 * p := Nat.zero_le _; omega
              generalize s + k3 * p = st at *
              have hlt3' : (st : Int) + (p : Int) ≤ (N : Int) := by omega
              have HNw := Lib.hid (HNPW.out wp (bnext HB0.out HBr.out))
              go_wp2_with fail
              go_loop [14, 15] (fun hv tv => ∃ (m : Nat), m ≤ p ∧ tv = .int .i64 ((st + m : Nat) : Int) ∧ hv = .int .i64 (cnt pz k2 st m : Nat)) (fun _ tv => st + p - (intOf tv).toNat)
              case atStart => exact ⟨0, Nat.zero_le _, rfl, rfl⟩
              case round =>
                obtain ⟨m, hmp, rfl, rfl⟩ := hrel
                have hcl := cnt_le pz k2 st m
                by_cases hltm : m < p
                · have hltm' : ((st + m : Nat) : Int) < (st : Int) + (p : Int) := by omega
                  obtain ⟨_, _, hsl, _, hcs⟩ := HNw.out
                  injection hsl with hs1 hs2' hs3
                  subst hs1 hs3
                  obtain ⟨bq, offq, rfl, cc⟩ := hcs (st + m) (by omega)
                  clear hcs hs2'
                  have t0 : (0 : Int) ≤ ((st + m : Nat) : Int) := by omega
                  have t1 : ((st + m : Nat) : Int) < (N : Int) := by omega
                  by_cases he : pz (st + m) = k2
                  · have HC2 := Lib.hid (show cnt pz k2 st (m + 1) = cnt pz k2 st m + 1 by simp only [cnt]; rw [if_pos he])
                    rw [he] at cc
                    clear he
                    generalize cnt pz k2 st m = had at *
                    have HTM := Lib.hid (show st + (m + 1) = st + m + 1 by omega)
                    generalize st + m = tt at *
                    go_wp2_with fail
                    go_round
                    case rel => exact ⟨m + 1, by omega, by rw [HTM.out]; go_num, by rw [HC2.out]; go_num⟩
                    case measure => simp [intOf]; omega
                  · have HC2 := Lib.hid (show cnt pz k2 st (m + 1) = cnt pz k2 st m by simp only [cnt]; rw [if_neg he]; rfl)
                    have he' : (pz (st + m) == (k2 : Int)) = false := by rw [beq_eq_false_iff_ne]; exact he
                    clear he
                    generalize pz (st + m) = z at *
                    generalize cnt pz k2 st m = had at *
                    have HTM := Lib.hid (show st + (m + 1) = st + m + 1 by omega)
                    generalize st + m = tt at *
                    go_wp2_with fail
                    go_round
                    case rel => exact ⟨m + 1, by omega, by rw [HTM.out]; go_num, by rw [HC2.out]⟩
                    case measure => simp [intOf]; omega
                · obtain rfl : m = p := by omega
                  have hltm' : (st : Int) + (m : Int) ≤ ((st + m : Nat) : Int) := by omega
                  clear hltm
                  rw [HC.out]
                  obtain ⟨T, hT⟩ : ∃ T, T = s + m := ⟨_, rfl⟩
                  have hT' : (s : Int) + (m : Int) = (T : Int) := by omega
                  have HLT := Lib.hid (HLGk.out T hT (by omega))
                  clear hT
                  go_wp2_with fail
                  refine (HLT.out _).mono ?_
                  rintro e w9 ⟨rfl, hb9⟩
                  have HB9 := Lib.hid (bnext HBr.out hb9)
                  have o0' := (hb9.cell (p := ⟨X, 0, none⟩) (cell_lt o0)).trans o0
                  have o1' := (hb9.cell (p := ⟨X, 1, none⟩) (cell_lt o1)).trans o1
                  clear hb9
                  go_wp2_with fail
                  go_roundw
                  case rel => exact ⟨k3 + 1, by omega, by rw [HST.out]; go_num, HB9⟩
                  case measure => simp [intOf]; omega
            · have hfit : ¬ s + k3 * p + p ≤ N := fun h => hlt3 ((HPI.out k3).2 h)
              obtain rfl : k3 = P := by omega
              generalize s + k3 * p = st at *
              have hlt3' : (N : Int) < (st : Int) + (p : Int) := by omega
              have HBn := Lib.hid (bnext HB0.out HBr.out)
              clear hlt3 hfit
              go_wp2_with fail
              go_roundw
              case rel => exact ⟨k2 + 1, by omega, by go_num, HBn⟩
              case measure => simp [intOf]; omega
        · have hge : decide (k2 < n) = false := decide_eq_false hlt
          clear hlt
          go_wp2_with fail
          refine (HW.out _).mono ?_
          rintro e w8 ⟨rfl, hb8⟩
          have HB8 := Lib.hid (bnext (bnext HB6.out HB.out) hb8)
          clear hb8
          go_wp2_with fail
          go_ret
          exact ⟨rfl, HB8.out⟩
    · obtain ⟨p0, cap0, rfl, _, _⟩ := h
      have hL' : (1048576 : Int) < sumZ (shZ I) n := by omega
      generalize sumZ (shZ I) n = LL at *
      generalize mV I N (plz I n) = mv at *
      generalize plz I n = pz at *
      clear h' h0 e3 e5 e6 e7 e8 hI hB hL HM
      go_enter Try.func7, Try.ntmps7
      go_wp2_with fail
      refine (HI.out _ (Below.refl _ _)).mono ?_
      rintro e w1 ⟨u1, rfl, ho1, hb1⟩
      have HT1 := Lib.hid (own_tris ho1 hn2)
      have HB1 := Lib.hid hb1
      clear ho1 hb1
      go_wp2_with fail
      refine (HL.out _ _ HT1.out).mono ?_
      rintro e w2 ⟨rfl, hb2⟩
      have HB2 := Lib.hid (bnext HB1.out hb2)
      clear hb2 HT1
      go_wp2_with fail
      refine (HI.out _ HB2.out).mono ?_
      rintro e w3 ⟨u3, rfl, ho3, hb3⟩
      have HT3 := Lib.hid (own_tris ho3 hn2)
      have HB3 := Lib.hid (bnext HB2.out hb3)
      clear ho3 hb3
      go_wp2_with fail
      refine (HP.out _ _ HT3.out).mono ?_
      intro e w4 hpost
      obtain ⟨p4, cap4, rfl, _, _, hb4⟩ := hpost.one (by omega)
      rw [errV_0]
      have HB4 := Lib.hid (bnext HB3.out hb4)
      clear hpost hb4 HT3
      go_wp2_with fail
      refine (HW.out _).mono ?_
      rintro e w8 ⟨rfl, hb8⟩
      have HB8 := Lib.hid (bnext HB4.out hb8)
      clear hb8
      go_wp2_with fail
      go_ret
      exact ⟨rfl, HB8.out⟩
  · have HER := Lib.hid (errV_ne h0)
    have HL := Lib.hid (fun W u hu => load_bad W u n f hu h0)
    have e5 : pN n f (N : Nat) = 0 := by unfold pN; rw [if_neg (fun k => h0 (e3 ▸ k))]
    rw [e5, HER.out] at HP
    rw [HER.out] at HL
    obtain ⟨p0, cap0, rfl, _, _⟩ := h
    generalize plz (itI n f) n = pz at *
    generalize vE n f = er at *
    clear h0 e3 e5
    go_enter Try.func7, Try.ntmps7
    go_wp2_with fail
    refine (HI.out _ (Below.refl _ _)).mono ?_
    rintro e w1 ⟨u1, rfl, ho1, hb1⟩
    have HT1 := Lib.hid (own_tris ho1 hn2)
    have HB1 := Lib.hid hb1
    clear ho1 hb1
    go_wp2_with fail
    refine (HL.out _ _ HT1.out).mono ?_
    rintro e w2 ⟨rfl, hb2⟩
    have HB2 := Lib.hid (bnext HB1.out hb2)
    clear hb2 HT1
    go_wp2_with fail
    refine (HI.out _ HB2.out).mono ?_
    rintro e w3 ⟨u3, rfl, ho3, hb3⟩
    have HT3 := Lib.hid (own_tris ho3 hn2)
    have HB3 := Lib.hid (bnext HB2.out hb3)
    clear ho3 hb3
    go_wp2_with fail
    refine (HP.out _ _ HT3.out).mono ?_
    intro e w4 hpost
    obtain ⟨p4, cap4, rfl, _, _, hb4⟩ := hpost.one (by omega)
    have HB4 := Lib.hid (bnext HB3.out hb4)
    clear hpost hb4 HT3
    go_wp2_with fail
    go_region_with ((go_at_call 17; refine (HW.out _).mono ?_; rintro e w8 ⟨rfl, hb8⟩; have HB8 := Lib.hid hb8; clear hb8))
    all_goals
      go_wp2_with fail
      go_ret
      exact ⟨rfl, bnext HB4.out (by first | exact HB8.out | exact undrew HB8.out)⟩
end Go.Proofs.Ytfahpjilgdlhiaa
