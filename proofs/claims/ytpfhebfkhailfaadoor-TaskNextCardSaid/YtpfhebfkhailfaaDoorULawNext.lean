/- The law TaskNext: it answers true, whatever the input; no condition but what the rows' listed variables hold. -/
import Derived.Test.YtpfhebfkhailfaaDoorULawA
import Derived.Test.YtpfhebfkhailfaaDoorUPick
namespace Go.Proofs.YtpfhebfkhailfaaDoor
open Go.RowKit Go.Shelf Tsk

/-- The one that is picked is ready, none that is ready goes ahead of it. -/
theorem pickS_spec (T : Nat → Tk) : ∀ m : Nat, (pickS T m = -1 ∧ ∀ i, i < m → (T i).n = 0) ∨ ∃ g : Nat, g < m ∧ pickS T m = (g : Int) ∧ 0 < (T g).n ∧ ∀ i, i < m → 0 < (T i).n → (T g).p ≤ (T i).p ∧ ((T i).p = (T g).p → g ≤ i)
  | 0 => .inl ⟨rfl, fun i hi => by omega⟩
  | m + 1 => by
    have hs : pickS T (m + 1) = if 0 < (T m).n ∧ (pickS T m < 0 ∨ (T m).p < (T (pickS T m).toNat).p) then ((m : Nat) : Int) else pickS T m := rfl
    by_cases hr : 0 < (T m).n
    · rcases pickS_spec T m with ⟨h1, h2⟩ | ⟨g, hg, h1, h2, h3⟩
      · rw [if_pos ⟨hr, .inl (by omega)⟩] at hs
        refine .inr ⟨m, by omega, hs, hr, fun i hi hn => ?_⟩
        by_cases e : i = m
        · subst e; exact ⟨by omega, fun _ => by omega⟩
        · have := h2 i (by omega); omega
      · rw [h1, Int.toNat_natCast] at hs
        by_cases hp : (T m).p < (T g).p
        · rw [if_pos ⟨hr, .inr hp⟩] at hs
          refine .inr ⟨m, by omega, hs, hr, fun i hi hn => ?_⟩
          by_cases e : i = m
          · subst e; exact ⟨by omega, fun _ => by omega⟩
          · have := h3 i (by omega) hn; exact ⟨by omega, fun h => by omega⟩
        · rw [if_neg (fun h => h.2.elim (fun h => by omega) hp)] at hs
          refine .inr ⟨g, by omega, hs, h2, fun i hi hn => ?_⟩
          by_cases e : i = m
          · subst e; exact ⟨by omega, fun _ => by omega⟩
          · exact h3 i (by omega) hn
    · rw [if_neg (fun h => hr h.1)] at hs
      rcases pickS_spec T m with ⟨h1, h2⟩ | ⟨g, hg, h1, h2, h3⟩
      · refine .inl ⟨hs.trans h1, fun i hi => ?_⟩
        by_cases e : i = m
        · subst e; omega
        · exact h2 i (by omega)
      · refine .inr ⟨g, by omega, hs.trans h1, h2, fun i hi hn => ?_⟩
        by_cases e : i = m
        · subst e; exact absurd hn hr
        · exact h3 i (by omega) hn
set_option maxHeartbeats 4000000 in
set_option maxRecDepth 100000 in
theorem next_any (v : Value) (m : Nat) (T : Nat → Tk) (w : World) (hg : LaidAt w) (h : Tasks w v m T) (_ : ∀ j, j < m → (T j).k.c ≤ 9223372036854775807 ∧ (T j).n * 32 ≤ 140737488355328) (_ : m * 80 ≤ 140737488355328) :
    Calls Tryd.prog 8 #[v] w fun e w' => e = .returned (.bool true) ∧ Below w.heap.size w w' := by
  have HT := Lib.hid h
  have HPK := Lib.hid (ppick v m T w h)
  have HWK := Lib.hid (fun (W : World) (hb : Below w.heap.size w W) => works_any W (hg.below hb))
  obtain ⟨q, cap, rfl, hm, _⟩ := h
  clear hg
  rcases pickS_spec T m with ⟨h1, h2⟩ | ⟨g, hgm, h1, h2, h3⟩
  · rw [h1] at HPK
    have H2 := Lib.hid h2
    clear h1 h2
    go_enter Tryd.func8, Tryd.ntmps8
    go_wp2_with fail
    refine HPK.out.mono ?_
    rintro e w1 ⟨rfl, hb1⟩
    have HB1 := Lib.hid hb1
    clear hb1
    go_wp2_with fail
    go_loopw [4] (fun iv wr => ∃ i : Nat, iv = .int .i64 i ∧ i ≤ m ∧ Hid (Below w.heap.size w wr)) (fun iv _ => m - (intOf iv).toNat)
    case atStart => exact ⟨0, rfl, Nat.zero_le _, HB1⟩
    case round =>
      obtain ⟨i, rfl, hi, HBr⟩ := hrel
      by_cases him : i < m
      · have him' : (i : Int) < (m : Int) := by omega
        obtain ⟨q', cap', e, _, hc⟩ := HT.out.below HBr.out
        cases e
        obtain ⟨b, off, rfl, c0, c1, c2, c3, c4, c5, c6, c7, hJ⟩ := hc i him
        obtain ⟨s1, cp1, hs1, _⟩ := hJ
        rw [hs1, H2.out i him] at c1
        clear hc hs1
        go_wp2_with fail
        go_roundw
        case rel => exact ⟨i + 1, by go_num, by omega, HBr⟩
        case measure => simp [intOf]; omega
      · have hg3 : decide (i < m) = false := decide_eq_false him
        obtain rfl : i = m := by omega
        clear him
        go_wp2_with fail
        refine (HWK.out _ HBr.out).mono ?_
        rintro e w6 ⟨rfl, hb6⟩
        have HB6 := Lib.hid (bnext HBr.out hb6)
        clear hb6
        go_wp2_with fail
        go_ret
        exact ⟨rfl, HB6.out⟩
  · rw [h1] at HPK
    have H3 := Lib.hid h3
    have hgi : (0 : Int) ≤ (g : Int) := by omega
    have hgj : (g : Int) < (m : Int) := by omega
    have hgn : decide ((g : Int) < -1) = false := decide_eq_false (by omega)
    have hgm2 : decide ((m : Int) ≤ (g : Int)) = false := decide_eq_false (by omega)
    have hgm3 : decide (m ≤ g) = false := decide_eq_false (by omega)
    have hg0 : decide ((g : Int) < 0) = false := decide_eq_false (by omega)
    clear h1 h3
    go_enter Tryd.func8, Tryd.ntmps8
    go_wp2_with fail
    refine HPK.out.mono ?_
    rintro e w1 ⟨rfl, hb1⟩
    have HB1 := Lib.hid hb1
    obtain ⟨q', cap', e, _, hc⟩ := HT.out.below hb1
    cases e
    obtain ⟨b, off, rfl, c0, c1, c2, c3, c4, c5, c6, c7, hJ⟩ := hc g hgm
    obtain ⟨s1, cp1, hs1, _⟩ := hJ
    rw [hs1] at c1
    have HR := Lib.hid (pready (T g).p s1 (T g).n cp1 (T g).k)
    rw [decide_eq_true h2] at HR
    obtain ⟨tg, htg⟩ : ∃ tg, tg = T g := ⟨_, rfl⟩
    rw [← htg] at c0 c1 c2 c3 c4 c5 c6 c7 HR
    have HTG := Lib.hid htg
    clear htg hc hs1 h2 hb1
    obtain ⟨gp, gs, gn, gf, ⟨kg, ko, kn, kd, kc, kt⟩⟩ := tg
    dsimp only at c0 c1 c2 c3 c4 c5 c6 c7 HR
    go_wp2_with fail
    refine (HR.out _).mono ?_
    rintro e w2 ⟨rfl, hb2⟩
    have HB2 := Lib.hid (bnext HB1.out hb2)
    clear hb2 c0 c1 c2 c3 c4 c5 c6 c7
    go_wp2_with fail
    go_loopw [4] (fun iv wr => ∃ i : Nat, iv = .int .i64 i ∧ i ≤ m ∧ Hid (Below w.heap.size w wr)) (fun iv _ => m - (intOf iv).toNat)
    case atStart => exact ⟨0, rfl, Nat.zero_le _, HB2⟩
    case round =>
      obtain ⟨i, rfl, hi, HBr⟩ := hrel
      by_cases him : i < m
      · have him' : (i : Int) < (m : Int) := by omega
        obtain ⟨q', cap', e, _, hc⟩ := HT.out.below HBr.out
        cases e
        obtain ⟨b0, off0, e0, c0, c1, c2, c3, c4, c5, c6, c7, hJ⟩ := hc i him
        cases e0
        obtain ⟨b0, off0, e0, d0, _⟩ := hc g hgm
        cases e0
        obtain ⟨s2, cp2, hs2, _⟩ := hJ
        rw [hs2] at c1
        rw [← HTG.out] at d0
        have H3i := H3.out i him
        rw [← HTG.out] at H3i
        dsimp only at d0 H3i
        obtain ⟨ti, hti⟩ : ∃ ti, ti = T i := ⟨_, rfl⟩
        rw [← hti] at c0 c1 H3i
        clear hti hc hs2 c2 c3 c4 c5 c6 c7
        obtain ⟨ip, is, inn, if_, ik⟩ := ti
        dsimp only at c0 c1 H3i
        by_cases hz : inn = 0
        · subst hz
          clear H3i
          go_wp2_with fail
          go_roundw
          case rel => exact ⟨i + 1, by go_num, by omega, HBr⟩
          case measure => simp [intOf]; omega
        · obtain ⟨hp1, hp2⟩ := H3i (by omega)
          have hzb : ((inn : Int) == 0) = false := by simp; omega
          have hzc : (inn == 0) = false := by simpa using hz
          have hlt : decide (ip < gp) = false := decide_eq_false (by omega)
          by_cases hq : ip = gp
          · have hgi2 := hp2 hq
            subst hq
            have hlt2 : decide ((i : Int) < (g : Int)) = false := decide_eq_false (by omega)
            have hlt3 : decide (i < g) = false := decide_eq_false (by omega)
            clear hp1 hp2 H3i hz
            go_wp2_with fail
            go_quiet (fail)
            have HBq := Lib.hid (below_drewN HBr.out nq)
            go_wp2_with fail
            go_roundw
            case rel => exact ⟨i + 1, by go_num, by omega, HBq⟩
            case measure => simp [intOf]; omega
          · have hqb : (ip == gp) = false := by simpa using hq
            clear hp1 hp2 H3i hz hq
            go_wp2_with fail
            go_quiet (fail)
            have HBq := Lib.hid (below_drewN HBr.out nq)
            go_wp2_with fail
            go_roundw
            case rel => exact ⟨i + 1, by go_num, by omega, HBq⟩
            case measure => simp [intOf]; omega
      · have hg3 : decide (i < m) = false := decide_eq_false him
        obtain rfl : i = m := by omega
        clear him
        go_wp2_with fail
        refine (HWK.out _ HBr.out).mono ?_
        rintro e w6 ⟨rfl, hb6⟩
        have HB6 := Lib.hid (bnext HBr.out hb6)
        clear hb6
        go_wp2_with fail
        go_ret
        exact ⟨rfl, HB6.out⟩
end Go.Proofs.YtpfhebfkhailfaaDoor
