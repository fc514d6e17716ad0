/- The document's own book: Charge; no condition but those that each row names. -/
import Derived.Test.YtdbfjcdglcagaaaDoorPRefD
import Derived.Test.YtdbfjcdglcagaaaDoorPCharge
namespace Go.Proofs.YtdbfjcdglcagaaaDoor
open Go.RowKit Bk

theorem step0_iff {L : List Ln} (hI : Inv L) (hl : 0 < L.length) (f : Nat → Int) : stepP L f 0 ↔ f 0 = L[0].h := by
  obtain ⟨r, rest, rfl, hp, hr⟩ := hI.root
  constructor
  · rintro ⟨x, hx, hx0⟩
    rw [if_pos rfl] at hx0
    obtain ⟨h1, h2⟩ := get_some hx
    rcases List.mem_cons.1 h2 with rfl | h2
    · exact h1.symm
    · exact absurd hx0 (hr x h2)
  · intro e
    refine ⟨r, ?_, by rw [if_pos rfl]; exact hp⟩
    rw [e]
    exact get_mem hI.nd (by simp)
theorem step_iff {L : List Ln} (hI : Inv L) {f : Nat → Int} {j : Nat} (hj : 0 < j) (hprev : stepP L f (j - 1)) {k : Nat} (hk : plc L (f j) = some k) (hkl : k < L.length) : stepP L f j ↔ (1 ≤ k ∧ L[k].p = f (j - 1)) := by
  obtain ⟨_, _, hg, _⟩ := plc_some hk
  have hz : f (j - 1) ≠ 0 := by
    obtain ⟨x, hx, _⟩ := hprev
    obtain ⟨h1, h2⟩ := get_some hx
    rw [← h1]; exact hI.nz x h2
  obtain ⟨r, rest, rfl, hp, hr⟩ := hI.root
  constructor
  · rintro ⟨x, hx, hxp⟩
    rw [hg] at hx
    cases hx
    rw [if_neg (by omega)] at hxp
    refine ⟨?_, hxp⟩
    rcases Nat.eq_zero_or_pos k with e | e
    · subst e
      exact absurd (hxp.symm.trans hp) hz
    · exact e
  · rintro ⟨_, h2⟩
    exact ⟨_, hg, by rw [if_neg (by omega)]; exact h2⟩
theorem rootG_0 {L : List Ln} (h : 0 < L.length) : rootG L = L[0].a.g := by cases L with
  | nil => simp at h
  | cons x r => rfl
theorem step_none {L : List Ln} {f : Nat → Int} {j : Nat} (hk : plc L (f j) = none) : ¬ stepP L f j := by
  rintro ⟨x, hx, _⟩
  rw [(plc_none hk).1] at hx
  cases hx
set_option maxHeartbeats 2000000 in
set_option maxRecDepth 100000 in
theorem rcharge (w : World) (v : Value) (L : List Ln) (hL : Lns w v L) (h4 : L.length ≤ 4000) (hI : Inv L) (u : Value) (n : Nat) (f : Nat → Int) (hv : Nums w u n f) (lent : Bool) :
    Calls Tryd.prog 22 #[v, u, .bool lent] w (RPost w (chargeB L n f lent) (chargeE L n f)) := by
  have HL := Lib.hid hL
  have HI := Lib.hid hI
  have HP := Lib.hid (fun W (hb : Below w.heap.size w W) (id : Int) => rplace W v L (hL.below hb) (by omega) id)
  have HC := Lib.hid (fun W (hb : Below w.heap.size w W) => rcopy W v L (hL.below hb) (by omega))
  have hl0 : 0 < L.length := by obtain ⟨r, rest, e, _⟩ := hI.root; rw [e]; simp
  have hl0' : (0 : Int) < (L.length : Int) := by omega
  obtain ⟨g0, cap, rfl, hlc, _, hg0⟩ := own_block2 hL hl0
  obtain ⟨b0, _, b2, _⟩ := own_at14 hL rfl 0 hl0
  have HBC := Lib.hid (fun W (hb : Below w.heap.size w W) (k : Nat) (hk : k < L.length) => own_at14 (hL.below hb) rfl k hk)
  obtain ⟨p, cap2, rfl, hm, hc⟩ := hv
  obtain ⟨p0, hp0⟩ : ∃ p0, p0 = p := ⟨_, rfl⟩
  have HS0 := Lib.hid (step0_iff hI hl0 f)
  simp only [Nat.zero_mul, Nat.zero_add] at b0 b2
  by_cases hn0 : n = 0
  · subst hn0
    have hE : chargeE L 0 f = 20 := by unfold chargeE; rw [if_pos (fun hh => absurd hh.1 (Nat.lt_irrefl _))]
    rw [show chargeB L 0 f lent = L from if_neg (by rw [hE]; decide), hE]
    clear hL hI hE
    go_enter Tryd.func22, Tryd.ntmps22
    go_wp2_with fail
    go_quiet (fail)
    have HBq := Lib.hid (below_drewN (Below.refl w.heap.size w) nq)
    go_wp2_with fail
    go_ret2
    exact rpost_same HL.out HBq.out
  have hn1 : 0 < n := by omega
  have hn1' : (0 : Int) < (n : Int) := by omega
  have hn2 : ((n : Int) == 0) = false := by simp; omega
  have HC0 := Lib.hid (show ∀ W, Below w.heap.size w W → ∀ j, j < n → ∃ g off, p0 = some ⟨g, off, none⟩ ∧ W.cell? ⟨g, off + j, none⟩ = some (.int .i64 (f j)) from fun W hb j hj => by
    obtain ⟨g, off, e, c⟩ := hc j hj
    exact ⟨g, off, hp0.trans e, (hb.cell (p := ⟨g, off + j, none⟩) (cell_lt c)).trans c⟩)
  obtain ⟨g, off, rfl, c0⟩ := hc 0 hn1
  simp only [Nat.add_zero] at c0
  by_cases h0 : f 0 = L[0].h
  · have hr0 : stepP L f 0 := HS0.out.2 h0
    have HR0 := Lib.hid hr0
    rw [h0] at c0
    clear hL hI h0 hr0 HS0 hc
    go_enter Tryd.func22, Tryd.ntmps22
    go_wp2_with fail
    go_quiet (fail)
    have HBq := Lib.hid (below_drewN (Below.refl w.heap.size w) nq)
    generalize w.drewN nq = wq at HBq ⊢
    go_wp2_with fail
    have HBAD := Lib.hid (show ∀ j, j < n → ¬ stepP L f j → chargeE L n f = 20 ∧ chargeB L n f lent = L from fun j hj hs => by
      have hE : chargeE L n f = 20 := by unfold chargeE; rw [if_pos (fun hh => hs (hh.2 j hj))]
      exact ⟨hE, if_neg (by rw [hE]; decide)⟩)
    have HGOOD := Lib.hid (show (∀ j, j < n → stepP L f j) → okP L n f from fun hh => ⟨hn1, hh⟩)
    clear b0 b2 c0
    go_loopw [8] (fun iv wr => ∃ j : Nat, iv = .int .i64 j ∧ 1 ≤ j ∧ j ≤ n ∧ Hid (∀ i, i < j → stepP L f i) ∧ Hid (Below w.heap.size w wr)) (fun iv _ => n - (intOf iv).toNat)
    case atStart => exact ⟨1, rfl, Nat.le_refl _, by omega, Lib.hid (fun i h => Eq.mpr (by rw [show i = 0 from by omega]) HR0.out), HBq⟩
    case round =>
      obtain ⟨j, rfl, hj1, hj, HK, HB⟩ := hrel
      clear HBq HR0
      by_cases hjn : j < n
      · have hjn' : (j : Int) < (n : Int) := by omega
        have hlm : (j : Int) - 1 = ((j - 1 : Nat) : Int) := by omega
        have hlm2 : ((j - 1 : Nat) : Int) < (n : Int) := by omega
        obtain ⟨g', off', e', c0⟩ := HC0.out _ HB.out j hjn
        rw [hp0] at e'
        cases e'
        obtain ⟨g', off', e', c1⟩ := HC0.out _ HB.out (j - 1) (by omega)
        rw [hp0] at e'
        cases e'
        have HPj := Lib.hid (HP.out wr HB.out (f j))
        have HBj := HBAD.out j hjn
        have HS := Lib.hid (show stepP L f j → ∀ i, i < j + 1 → stepP L f i from fun hs i hi => by
          by_cases e : i = j
          · subst e; exact hs
          · exact HK.out i (by omega))
        cases hk : plc L (f j) with
        | none =>
          rw [hk] at HPj
          have HPj := Lib.hid (show Calls Tryd.prog 30 _ wr fun e w' => e = .returned (.int .i64 (-1)) ∧ wr = w' from HPj.out)
          have HR := Lib.hid (HBj (step_none hk))
          generalize f j = fj at c0 HPj
          generalize f (j - 1) = fk at c1
          clear HBj hk HS
          go_wp2_with fail
          refine HPj.out.mono ?_
          rintro e w1 ⟨rfl, rfl⟩
          go_wp2_with fail
          go_quiet (fail)
          have HBq := Lib.hid (below_drewN HB.out nq)
          go_wp2_with fail
          go_ret2
          rw [HR.out.1, HR.out.2]
          exact rpost_same HL.out HBq.out
        | some k =>
          obtain ⟨hkl, _, _, _⟩ := plc_some hk
          rw [hk] at HPj
          have HPj := Lib.hid (show Calls Tryd.prog 30 _ wr fun e w' => e = .returned (.int .i64 (k : Nat)) ∧ wr = w' from HPj.out)
          have HIF := Lib.hid (step_iff HI.out hj1 (HK.out (j - 1) (by omega)) hk hkl)
          have hkl' : (k : Int) < (L.length : Int) := by omega
          have bk := (HBC.out wr HB.out k hkl).2.1
          by_cases hk1 : k < 1
          · have e : k = 0 := by omega
            subst e
            have HPj := Lib.hid (show Calls Tryd.prog 30 _ wr fun e w' => e = .returned (.int .i64 0) ∧ wr = w' from HPj.out)
            have HR := Lib.hid (HBj (fun hh => absurd (HIF.out.1 hh).1 (by omega)))
            generalize f j = fj at c0 HPj
            generalize f (j - 1) = fk at c1
            clear HBj hk HS HIF bk
            go_wp2_with fail
            refine HPj.out.mono ?_
            rintro e w1 ⟨rfl, rfl⟩
            go_wp2_with fail
            go_quiet (fail)
            have HBq := Lib.hid (below_drewN HB.out nq)
            go_wp2_with fail
            go_ret2
            rw [HR.out.1, HR.out.2]
            exact rpost_same HL.out HBq.out
          · have hd1 : decide ((k : Int) < 1) = false := decide_eq_false (by omega)
            by_cases hp : L[k].p = f (j - 1)
            · have HR := Lib.hid (HS.out (HIF.out.2 ⟨by omega, hp⟩))
              rw [hp] at bk
              generalize f j = fj at c0 HPj
              generalize f (j - 1) = fk at c1 bk
              clear HBj hk HS HIF hp
              go_wp2_with fail
              refine HPj.out.mono ?_
              rintro e w1 ⟨rfl, rfl⟩
              go_wp2_with fail
              go_quiet (fail)
              have HBq := Lib.hid (below_drewN HB.out nq)
              go_wp2_with fail
              go_roundw
              case rel => exact ⟨j + 1, by go_num, by omega, by omega, HR, HBq⟩
              case measure => simp [intOf]; omega
            · have HR := Lib.hid (HBj (fun hh => hp (HIF.out.1 hh).2))
              generalize f j = fj at c0 HPj
              generalize f (j - 1) = fk at c1 hp
              generalize L[k].p = lp at bk hp
              clear HBj hk HS HIF
              go_wp2_with fail
              refine HPj.out.mono ?_
              rintro e w1 ⟨rfl, rfl⟩
              go_wp2_with fail
              go_quiet (fail)
              have HBq := Lib.hid (below_drewN HB.out nq)
              go_wp2_with fail
              go_ret2
              rw [HR.out.1, HR.out.2]
              exact rpost_same HL.out HBq.out
      · have hd : decide (j < n) = false := decide_eq_false hjn
        have e : j = n := by omega
        subst e
        have HOK := Lib.hid (HGOOD.out HK.out)
        clear hjn hj HK HBAD HGOOD
        have b2 := (HBC.out wr HB.out 0 hl0).2.2.1
        simp only [Nat.zero_mul, Nat.zero_add] at b2
        have HG := Lib.hid (rootG_0 hl0)
        generalize L[0].a.g = lg at b2 HG
        by_cases hg : 1073741824 ≤ lg
        · have hE : chargeE L j f = 10 := by unfold chargeE; rw [if_neg (fun k => k HOK.out), HG.out, if_pos hg]
          have HR := Lib.hid (show chargeE L j f = 10 ∧ chargeB L j f lent = L from ⟨hE, if_neg (by rw [hE]; decide)⟩)
          clear hE
          go_wp2_with fail
          go_ret2
          rw [HR.out.1, HR.out.2]
          exact rpost_same HL.out HB.out
        · have hE : chargeE L j f = 0 := by unfold chargeE; rw [if_neg (fun k => k HOK.out), HG.out, if_neg hg]
          have HR := Lib.hid (show chargeE L j f = 0 ∧ chargeB L j f lent = updB (incs L f j) (f (j - 1)) (lastUp lent) from ⟨hE, if_pos hE⟩)
          clear hE
          go_wp2_with fail
          refine (HC.out wr HB.out).mono ?_
          rintro e w3 ⟨p1, cap1, rfl, ho1, hb3⟩
          obtain ⟨g1, cap3, e1, hlc1, hge, hg1⟩ := own_block2 ho1 hl0
          cases e1
          have HB3 := Lib.hid (bnext HB.out hb3)
          have HO := Lib.hid (own_base2 ho1 HB.out.size)
          have hge2 : w.heap.size ≤ g1 := Nat.le_trans HB.out.size hge
          clear ho1 hb3 b2
          go_wp2_with fail
          go_loopw [11] (fun iv wr => ∃ i : Nat, iv = .int .i64 i ∧ i ≤ j ∧ Hid (wr.ownsRow w.heap.size LT 14 (.slice (some ⟨g1, 0, none⟩) L.length cap1) L.length (lnL (incs L f i))) ∧ Hid (Below w.heap.size w wr)) (fun iv _ => j - (intOf iv).toNat)
          case atStart => exact ⟨0, rfl, Nat.zero_le _, HO, HB3⟩
          case round =>
            obtain ⟨i, rfl, hi, HO, HB⟩ := hrel
            clear HB3
            by_cases hij : i < j
            · have hij' : (i : Int) < (j : Int) := by omega
              obtain ⟨g', off', e', c0⟩ := HC0.out _ HB.out i hij
              rw [hp0] at e'
              cases e'
              obtain ⟨xs, hxs, _⟩ := HOK.out.2 i hij
              obtain ⟨k, hk⟩ := plc_of_get hxs
              have HPk := HP.out wr HB.out (f i)
              rw [hk] at HPk
              have HPk := Lib.hid (show Calls Tryd.prog 30 _ wr fun e w' => e = .returned (.int .i64 (k : Nat)) ∧ wr = w' from HPk)
              obtain ⟨hkl, _⟩ := plc_some hk
              have hkl' : (k : Int) < (L.length : Int) := by omega
              have hkM : k < (incs L f i).length := by rw [incs_len]; exact hkl
              obtain ⟨x, hxe⟩ : ∃ x, x = (incs L f i)[k] := ⟨_, rfl⟩
              have c2 := (own_at14 HO.out (incs_len _ _ _).symm k hkM).2.2.1
              rw [← hxe] at c2
              have hfz := fun j => World.ownsRow.frozenAt HO.out j
              have HS := Lib.hid (own_set14 HO.out k hkM 2 (by omega) (.int .i64 (wrap64 (x.a.g + 1))) (gUp x) (by rw [← hxe]; rfl))
              have HE := Lib.hid (show (incs L f i).set k (gUp x) = incs L f (i + 1) from by
                rw [hxe]
                exact ((upd_set (by unfold Nd; rw [incs_handles]; exact HI.out.nd) (h := f i) (k := k) (by rw [plc_handles (incs_handles L f i)]; exact hk) gUp).2).symm)
              rw [HE.out] at HS
              clear hxe hxs hk HE
              generalize f i = fi at c0 HPk
              go_wp2_with fail
              refine HPk.out.mono ?_
              rintro e w4 ⟨rfl, rfl⟩
              go_wp2_with fail
              go_roundw
              case rel => exact ⟨i + 1, by go_num, by omega, HS, Lib.hid (Below.setCell HB.out hge2 _)⟩
              case measure => simp [intOf]; omega
            · have hd : decide (i < j) = false := decide_eq_false hij
              have e : i = j := by omega
              subst e
              clear hij hi
              have hlm : (i : Int) - 1 = ((i - 1 : Nat) : Int) := by omega
              have hlm2 : ((i - 1 : Nat) : Int) < (i : Int) := by omega
              obtain ⟨g', off', e', c0⟩ := HC0.out _ HB.out (i - 1) (by omega)
              rw [hp0] at e'
              cases e'
              obtain ⟨xs, hxs, _⟩ := HOK.out.2 (i - 1) (by omega)
              obtain ⟨k, hk⟩ := plc_of_get hxs
              have HPk := HP.out wr HB.out (f (i - 1))
              rw [hk] at HPk
              have HPk := Lib.hid (show Calls Tryd.prog 30 _ wr fun e w' => e = .returned (.int .i64 (k : Nat)) ∧ wr = w' from HPk)
              obtain ⟨hkl, _⟩ := plc_some hk
              have hkl' : (k : Int) < (L.length : Int) := by omega
              have hkM : k < (incs L f i).length := by rw [incs_len]; exact hkl
              obtain ⟨x, hxe⟩ : ∃ x, x = (incs L f i)[k] := ⟨_, rfl⟩
              obtain ⟨_, _, _, c3, c4, _⟩ := own_at14 HO.out (incs_len _ _ _).symm k hkM
              rw [← hxe] at c3 c4
              have hfz := fun j => World.ownsRow.frozenAt HO.out j
              have HS1 := Lib.hid (own_set14 HO.out k hkM 3 (by omega) (.int .i64 (wrap64 (x.a.o + 1))) (lastUp false x) (by rw [← hxe]; rfl))
              have HE := Lib.hid (show ∀ lent, (incs L f i).set k (lastUp lent x) = updB (incs L f i) (f (i - 1)) (lastUp lent) from fun lent => by
                rw [hxe]
                exact ((upd_set (by unfold Nd; rw [incs_handles]; exact HI.out.nd) (h := f (i - 1)) (k := k) (by rw [plc_handles (incs_handles L f i)]; exact hk) (lastUp lent)).2).symm)
              have HS2 := Lib.hid (show ((wr.setCell ⟨g1, k * 14 + 3, none⟩ (.int .i64 (wrap64 (x.a.o + 1)))).setCell ⟨g1, k * 14 + 4, none⟩ (.int .i64 (wrap64 (x.a.l + 1)))).ownsRow w.heap.size LT 14 (.slice (some ⟨g1, 0, none⟩) L.length cap1) L.length (lnL ((incs L f i).set k (lastUp true x))) from by
                have hh := own_set14 HS1.out k (by simpa using hkM) 4 (by omega) (.int .i64 (wrap64 (x.a.l + 1))) (lastUp true x) (by simp only [List.getElem_set_self]; rfl)
                rwa [List.set_set] at hh)
              have HLE := Lib.hid (show ∀ lent, ((incs L f i).set k (lastUp lent x)).length = L.length from fun lent => by rw [List.length_set, incs_len])
              clear hxe hxs hk
              generalize f (i - 1) = fi at c0 HPk
              cases lent with
              | false =>
                go_wp2_with fail
                refine HPk.out.mono ?_
                rintro e w4 ⟨rfl, rfl⟩
                go_wp2_with fail
                go_ret2
                rw [HR.out.1, HR.out.2, ← HE.out]
                refine ⟨_, rfl, by unfold Lns; rw [HLE.out]; exact own_base2 HS1.out (Nat.zero_le _), Below.setCell HB.out hge2 _⟩
              | true =>
                go_wp2_with fail
                refine HPk.out.mono ?_
                rintro e w4 ⟨rfl, rfl⟩
                go_wp2_with fail
                go_ret2
                rw [HR.out.1, HR.out.2, ← HE.out]
                refine ⟨_, rfl, by unfold Lns; rw [HLE.out]; exact own_base2 HS2.out (Nat.zero_le _), Below.setCell (Below.setCell HB.out hge2 _) hge2 _⟩
  · have hE : chargeE L n f = 20 := by unfold chargeE; rw [if_pos (fun hh => h0 (HS0.out.1 (hh.2 0 hh.1)))]
    rw [show chargeB L n f lent = L from if_neg (by rw [hE]; decide), hE]
    generalize f 0 = f0 at c0 h0
    generalize L[0].h = l0 at b0 h0
    clear hL hI hE HS0 hc HC0
    go_enter Tryd.func22, Tryd.ntmps22
    go_wp2_with fail
    go_quiet (fail)
    have HBq := Lib.hid (below_drewN (Below.refl w.heap.size w) nq)
    go_wp2_with fail
    go_ret2
    exact rpost_same HL.out HBq.out
end Go.Proofs.YtdbfjcdglcagaaaDoor
