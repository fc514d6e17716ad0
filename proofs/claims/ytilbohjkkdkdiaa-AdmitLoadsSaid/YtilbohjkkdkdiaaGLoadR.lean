/- The document's own Load; no condition but those that each row names. -/
import Derived.Test.YtilbohjkkdkdiaaGLoadP
import Derived.Test.YtilbohjkkdkdiaaGRefA
import Derived.Deep.CutBlock
import Derived.Deep.CutRange
import Derived.Deep.DeepCutAuto
namespace Go.Proofs.Ytilbohjkkdkdiaa
open Go.RowKit

/-- What the document's Load answers. -/
def LoadR (w : World) (L : List Cl) (e : Ending) (w' : World) : Prop := Below w.heap.size w w' ∧ ((loadE L = 0 ∧ ∃ v', e = .returned (.tuple #[v', .int .i64 0]) ∧ Rc w' v' L) ∨ (loadE L ≠ 0 ∧ e = .returned (.tuple #[.slice none 0 0, .int .i64 (loadE L)])))
theorem loadr_bad {w w' : World} {L : List Cl} {n : Int} (hb : Below w.heap.size w w') (h : loadE L = n) (hn : n ≠ 0) : LoadR w L (.returned (.tuple #[.slice none 0 0, .int .i64 n])) w' :=
  ⟨hb, .inr ⟨by rw [h]; exact hn, by rw [h]⟩⟩
def LrI (w : World) (L : List Cl) (k : Nat) (wr : World) : Prop := scan (-1) (L.take k) = 0 ∧ Below w.heap.size w wr
theorem last_take {L : List Cl} {k : Nat} (h : k < L.length) : lastS (-1) (L.take (k + 1)) = L[k].s := by
  rw [List.take_succ_eq_append_getElem h]; exact lastS_snoc _ _ _

set_option maxHeartbeats 8000000 in
set_option maxRecDepth 100000 in
theorem rload_any (w : World) (v : Value) (L : List Cl) (h : Rd w v L) : Calls Try.prog 14 #[v] w (LoadR w L) := by
  have H1 := Lib.hid (show LrI w L 0 w from ⟨rfl, Below.refl _ _⟩)
  have HRD := Lib.hid h
  obtain ⟨p, cap, rfl, hl, hc⟩ := h
  have HC := Lib.hid hc
  clear hc
  go_enter Try.func14, Try.ntmps14
  go_wp2_with fail
  go_loopw [4] (fun i wr => ∃ k : Nat, k ≤ L.length ∧ i = .int .i64 k ∧ Hid (LrI w L k wr)) (fun i _ => L.length - (intOf i).toNat)
  case atStart => exact ⟨0, by omega, rfl, H1⟩
  case round =>
    obtain ⟨k, hk, rfl, HE⟩ := hrel
    clear H1
    by_cases hlt : k < L.length
    · have hlt' : (k : Int) < (L.length : Int) := by omega
      have hk0 : (0 : Int) ≤ (k : Int) := by omega
      obtain ⟨b', off, rfl, c0, c1, c2, c3⟩ := HC.out k hlt
      have d0 := (HE.out.2.cell (cell_lt c0)).trans c0
      have d1 := (HE.out.2.cell (cell_lt c1)).trans c1
      have d2 := (HE.out.2.cell (cell_lt c2)).trans c2
      have d3 := (HE.out.2.cell (cell_lt c3)).trans c3
      have HSA := Lib.hid (fun hb => scan_at hlt HE.out.1 hb)
      have HST := Lib.hid (fun h1 h2 => scan_take hlt HE.out.1 h1 h2)
      clear c0 c1 c2 c3
      generalize L[k] = c at *
      obtain ⟨cs, cn, cx, cd⟩ := c
      simp only at d0 d1 d2 d3
      have HW1 := Lib.hid (HE.out.2.alloc HE.out.2.size (.cells #[.int .i64 cs, .int .i64 cn, .int .i64 cx, .bool cd] 36))
      by_cases hm : may ⟨cs, cn, cx, cd⟩
      · have hm' := hm
        obtain ⟨m0, m1, m2, m3, m4, m5⟩ := hm'
        simp only at m0 m1 m2 m3 m4 m5
        have HSH := Lib.hid fun w => rshare_yes cn w m2 m3
        have y0 : decide (cs < 0) = false := decide_eq_false (by omega)
        have y1 : decide (64 ≤ cs) = false := decide_eq_false (by omega)
        have y2 : decide (cx < 0) = false := decide_eq_false (by omega)
        have y3 : decide (1048576 < cx) = false := decide_eq_false (by omega)
        cases k with
        | zero =>
          have HSC := Lib.hid (HST.out hm (by simp only [List.take_zero, lastS]; omega))
          have z0 : decide ((0 : Int) < ((0 : Nat) : Int)) = false := by simp
          simp only [Nat.zero_mul, Nat.add_zero] at d0 d1 d2 d3
          clear hm HE
          go_wp2_with fail
          refine (HSH.out _).mono ?_
          rintro e w2 ⟨rfl, rfl⟩
          have HB2 := Lib.hid fun n => below_drewN HW1.out n
          go_wp2_with fail
          go_quiet (fail)
          go_wp2_with fail
          go_roundw
          case rel => exact ⟨1, by omega, by simp, Lib.hid ⟨HSC.out.1, HB2.out _⟩⟩
          case measure => simp [intOf]; omega
        | succ j =>
          have hj : j < L.length := by omega
          obtain ⟨b2, off2, e2, i0, _, _, _⟩ := HC.out j hj
          cases e2
          have k0 := (HE.out.2.cell (cell_lt i0)).trans i0
          have k1 := cell_lt i0
          simp only at k1
          have k2 := HE.out.2.size
          have k3 := Nat.lt_of_lt_of_le k1 k2
          have HLT := Lib.hid (last_take hj)
          generalize L[j] = c2 at *
          obtain ⟨js, jn, jx, jd⟩ := c2
          simp only at k0
          have HLJ := Lib.hid (show lastS (-1) (L.take (j + 1)) = js from HLT.out)
          have jj : (j : Int) < (L.length : Int) := by omega
          have wr1 : IntKind.i64.wrap (j : Int) = (j : Int) := IntWalk.i64_in _ (by omega)
          have wr2 : (0 : Int) ≤ (j : Int) := by omega
          have hkj : (0 : Int) < (j : Int) + 1 := by omega
          by_cases hs : cs ≤ js
          · have HL := Lib.hid (loadE_scan ((HSA.out (fun h => by have := h.2; rw [HLJ.out] at this; simp only at this; omega)).trans (if_pos hm)) (by decide))
            have HB2 := Lib.hid fun n => below_drewN HW1.out n
            clear hm HE i0 HLT
            go_wp2_with fail
            refine (HSH.out _).mono ?_
            rintro e w2 ⟨rfl, rfl⟩
            go_upto_region 7 with fail
            go_quiet (fail)
            go_wp2_with fail
            go_ret2
            exact loadr_bad (HB2.out _) HL.out (by decide)
          · have hs' : decide (cs ≤ js) = false := decide_eq_false hs
            have HSC := Lib.hid (HST.out hm (by rw [HLJ.out]; simp only; omega))
            have HB2 := Lib.hid fun n => below_drewN HW1.out n
            clear hm hs HE i0 HLT
            go_wp2_with fail
            refine (HSH.out _).mono ?_
            rintro e w2 ⟨rfl, rfl⟩
            go_upto_region 7 with fail
            go_quiet (fail)
            go_wp2_with fail
            go_roundw
            case rel => exact ⟨j + 1 + 1, by omega, by go_num, Lib.hid ⟨HSC.out.1, HB2.out _⟩⟩
            case measure => simp [intOf]; omega
      · have HL := Lib.hid (loadE_scan ((HSA.out (fun h => hm h.1)).trans (if_neg hm)) (by decide))
        unfold may at hm
        simp only at hm
        clear HE
        by_cases p0 : cs < 0
        · clear hm
          go_wp2_with fail
          go_ret2
          exact loadr_bad HW1.out HL.out (by decide)
        · have y0 : decide (cs < 0) = false := decide_eq_false p0
          by_cases p1 : 64 ≤ cs
          · clear hm p0
            go_wp2_with fail
            go_ret2
            exact loadr_bad HW1.out HL.out (by decide)
          · have y1 : decide (64 ≤ cs) = false := decide_eq_false p1
            by_cases p2 : cn < 1 ∨ 1048576 < cn
            · have HSH := Lib.hid fun w => rshare_no cn w p2
              clear hm p0 p1 p2
              go_wp2_with fail
              refine (HSH.out _).mono ?_
              rintro e w2 ⟨rfl, rfl⟩
              go_wp2_with fail
              go_ret2
              exact loadr_bad HW1.out HL.out (by decide)
            · have HSH := Lib.hid fun w => rshare_yes cn w (by omega) (by omega)
              by_cases p3 : cx < 0
              · clear hm p0 p1 p2
                go_wp2_with fail
                refine (HSH.out _).mono ?_
                rintro e w2 ⟨rfl, rfl⟩
                go_wp2_with fail
                go_ret2
                exact loadr_bad HW1.out HL.out (by decide)
              · have y2 : decide (cx < 0) = false := decide_eq_false p3
                have y3 : 1048576 < cx := by omega
                clear hm p0 p1 p2 p3
                go_wp2_with fail
                refine (HSH.out _).mono ?_
                rintro e w2 ⟨rfl, rfl⟩
                go_wp2_with fail
                go_ret2
                exact loadr_bad HW1.out HL.out (by decide)
    · obtain rfl : k = L.length := by omega
      have hg3 : decide (L.length < L.length) = false := decide_eq_false (by omega)
      have hE := HE.out
      unfold LrI at hE
      rw [List.take_of_length_le (Nat.le_refl _)] at hE
      obtain ⟨h1, h5⟩ := hE
      obtain ⟨f, a, hlod⟩ := lod_all h1
      have hsml : Sml L := ⟨by have := hlod.len; have := hlod.a1; omega, hlod.cnts⟩
      have HSUM := Lib.hid fun W v hv => rsum_any W v L hv hsml
      have HTW := Lib.hid fun W v hv => rtwin_any W v L hv
      have HH5 := Lib.hid h5
      have HS := Lib.hid (show loadE L = if 1048576 < lsum L then 270 else 0 from by unfold loadE; rw [if_pos h1])
      have hls := lsum_in' hlod
      have h64 := hsml.len
      generalize lsum L = S at *
      have HRD2 := Lib.hid (HRD.out.below (show Below w.heap.size w wr from h5))
      clear hlt HE h1 h5 hlod hsml HC
      go_wp2_with fail
      refine (HSUM.out _ _ HRD2.out).mono ?_
      rintro e w2 ⟨rfl, hb2⟩
      have HW2 := Lib.hid (bnext HH5.out hb2)
      have HRD3 := Lib.hid (HRD2.out.below hb2)
      clear hb2
      by_cases ho : 1048576 < S
      · have HL := Lib.hid (HS.out.trans (if_pos ho))
        go_wp2_with fail
        go_ret2
        exact loadr_bad HW2.out HL.out (by decide)
      · have ho' : decide (1048576 < S) = false := decide_eq_false ho
        have HL := Lib.hid (HS.out.trans (if_neg ho))
        clear ho
        go_wp2_with fail
        refine (HTW.out _ _ HRD3.out).mono ?_
        rintro e w3 ⟨v3, rfl, ho3, hb3⟩
        have HR3 := Lib.hid (own_rc ho3 (by omega))
        have HW3 := Lib.hid (bnext HW2.out hb3)
        clear ho3 hb3
        go_wp2_with fail
        go_ret2
        exact ⟨HW3.out, .inl ⟨HL.out, _, rfl, HR3.out⟩⟩
end Go.Proofs.Ytilbohjkkdkdiaa
