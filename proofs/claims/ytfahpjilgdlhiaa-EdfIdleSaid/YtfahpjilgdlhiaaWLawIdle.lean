/- The walk of EdfIdle: whatever the items and the number, it answers true; no condition but that the items are at most 2^47 bytes. -/
import Derived.Test.YtfahpjilgdlhiaaWLawStretch
namespace Go.Proofs.Ytfahpjilgdlhiaa
open Go.RowKit Edf

/-- What each item had of its period, ahead of the tick's own look at it and behind it. -/
def hadA (I : Nat → It) (n t i : Nat) : Nat := if (I i).s ≤ t then (I i).q - lf I n t i else 0
def hadB (I : Nat → It) (n : Nat) : Nat → Nat → Nat
  | 0, _ => 0
  | t + 1, i => hadA I n t i + if pl I n t = some i then 1 else 0
theorem lf_le {I : Nat → It} {n : Nat} (hI : ∀ i, (I i).Ok) (t i : Nat) : lf I n t i ≤ (I i).q := by
  have hp : 1 ≤ (I i).p := by have := hI i; unfold It.Ok at this; omega
  rcases period hp t with h | ⟨k, r, hr, e⟩
  · rw [(lf_early t h).2]; omega
  · have := lf_cnt (I := I) (n := n) (i := i) (hI i) k r hr
    rw [← e] at this
    omega
theorem hadB_early {I : Nat → It} {n : Nat} {i : Nat} : ∀ t, t ≤ (I i).s → hadB I n t i = 0
  | 0, _ => rfl
  | t + 1, h => by
    show hadA I n t i + _ = 0
    unfold hadA
    rw [if_neg (by omega), if_neg]
    intro hp
    have h1 := pl_left hp
    have h2 := (lf_early (I := I) (n := n) (i := i) t (by omega)).2
    omega
theorem had_reset {I : Nat → It} {n : Nat} {t i : Nat} (hb : Begins (I i) t) : hadA I n t i = 0 := by
  unfold hadA
  rw [if_pos hb.1]
  have e : lf I n t i = (I i).q := if_pos hb
  omega
theorem had_stays {I : Nat → It} {n : Nat} (hI : ∀ i, (I i).Ok) {i : Nat} : ∀ {t}, (I i).s ≤ t → ¬ Begins (I i) t → hadB I n t i = hadA I n t i
  | 0, hs, hb => absurd ⟨hs, by rw [show 0 - (I i).s = 0 by omega]; exact Nat.zero_mod _⟩ hb
  | t + 1, hs, hb => by
    have hs2 : (I i).s ≤ t := by
      apply Classical.byContradiction
      intro h
      exact hb ⟨hs, by rw [show t + 1 - (I i).s = 0 by omega]; exact Nat.zero_mod _⟩
    have e : lf I n (t + 1) i = dec (lf I n t) (pl I n t) i := if_neg hb
    have h1 := lf_le (n := n) hI t i
    show hadA I n t i + _ = _
    unfold hadA
    rw [if_pos hs2, if_pos hs, e]
    unfold dec
    by_cases hp : pl I n t = some i
    · have := pl_left hp
      rw [if_pos hp, if_pos hp]
      omega
    · rw [if_neg hp, if_neg hp]
      rfl
theorem had_lt {I : Nat → It} {n : Nat} (hI : ∀ i, (I i).Ok) {t i : Nat} (hs : (I i).s ≤ t) : hadA I n t i < (I i).q ↔ 1 ≤ lf I n t i := by
  have h1 := lf_le (n := n) hI t i
  have h2 := hI i
  unfold It.Ok at h2
  unfold hadA
  rw [if_pos hs]
  omega
def hadM (I : Nat → It) (n t i j : Nat) : Int := if j < i then (hadA I n t j : Nat) else (hadB I n t j : Nat)
/-- The end of the one picked so far. -/
def endO (I : Nat → It) (t : Nat) : Option Nat → Nat
  | none => 0
  | some b => fin (I b) t
abbrev pkI (I : Nat → It) (n t i : Nat) : Option Nat := pick (chi I t (lf I n t)) i
theorem pk_no {I : Nat → It} {n t i : Nat} (h : lf I n t i = 0) : pkI I n t (i + 1) = pkI I n t i := pick_no (by show ¬ (0 : Int) < ((lf I n t i : Nat) : Int); omega)
theorem pk_first {I : Nat → It} {n t i : Nat} (h : 1 ≤ lf I n t i) (h2 : pkI I n t i = none) : pkI I n t (i + 1) = some i := pick_first (by show (0 : Int) < ((lf I n t i : Nat) : Int); omega) h2
theorem ahead_chi {I : Nat → It} {n t i b : Nat} (hb : b < i) : Ahead (chi I t (lf I n t)) i b ↔ fin (I i) t < fin (I b) t := by
  show ((fin (I i) t : Nat) : Int) < ((fin (I b) t : Nat) : Int) ∨ ((fin (I i) t : Nat) : Int) = ((fin (I b) t : Nat) : Int) ∧ (((i : Nat) : Int) < ((b : Nat) : Int) ∨ ((i : Nat) : Int) = ((b : Nat) : Int) ∧ i < b) ↔ _
  omega
theorem pk_yes {I : Nat → It} {n t i b : Nat} (h : 1 ≤ lf I n t i) (h2 : pkI I n t i = some b) (h3 : fin (I i) t < fin (I b) t) : pkI I n t (i + 1) = some i :=
  pick_yes (by show (0 : Int) < ((lf I n t i : Nat) : Int); omega) h2 ((ahead_chi (pick_lt h2)).2 h3)
theorem pk_behind {I : Nat → It} {n t i b : Nat} (h2 : pkI I n t i = some b) (h3 : ¬ fin (I i) t < fin (I b) t) : pkI I n t (i + 1) = some b :=
  pick_behind h2 fun k => h3 ((ahead_chi (pick_lt h2)).1 k)
theorem hadM_next {I : Nat → It} {n N t i : Nat} (h : hadB I n t i = hadA I n t i) : numL (hadM I n t i) N = numL (hadM I n t (i + 1)) N := numL_congr fun j _ => by
  unfold hadM
  by_cases e : j = i
  · subst e; rw [if_neg (by omega), if_pos (by omega), h]
  · by_cases h : j < i
    · rw [if_pos h, if_pos (by omega)]
    · rw [if_neg h, if_neg (by omega)]
theorem hadM_set {I : Nat → It} {n N t i : Nat} (h : hadA I n t i = 0) : numL (upd (hadM I n t i) i 0) N = numL (hadM I n t (i + 1)) N := numL_congr fun j _ => by
  unfold upd hadM
  by_cases e : j = i
  · subst e; rw [if_pos rfl, if_pos (by omega), h]; rfl
  · rw [if_neg e]
    by_cases h : j < i
    · rw [if_pos h, if_pos (by omega)]
    · rw [if_neg h, if_neg (by omega)]
theorem hadM_none {I : Nat → It} {n t : Nat} (h : pl I n t = none) : numL (hadM I n t n) n = numL (hadM I n (t + 1) 0) n := numL_congr fun j hj => by
  unfold hadM
  rw [if_pos hj, if_neg (by omega)]
  show _ = ((hadA I n t j + if pl I n t = some j then 1 else 0 : Nat) : Int)
  rw [h, if_neg (by simp)]
  rfl
theorem hadM_some {I : Nat → It} {n t k : Nat} (h : pl I n t = some k) : numL (upd (hadM I n t n) k (hadM I n t n k + 1)) n = numL (hadM I n (t + 1) 0) n := numL_congr fun j hj => by
  have hk := pl_lt h
  unfold upd hadM
  rw [if_pos hk, if_neg (by omega : ¬ j < 0)]
  show _ = ((hadA I n t j + if pl I n t = some j then 1 else 0 : Nat) : Int)
  by_cases e : j = k
  · subst e; rw [if_pos rfl, if_pos h]; simp
  · rw [if_neg e, if_pos hj, if_neg (fun k2 => e (by rw [h] at k2; exact (Option.some.inj k2).symm))]; rfl
set_option maxHeartbeats 4000000 in
set_option maxRecDepth 100000 in
theorem idle_any (w : World) (v : Value) (n : Nat) (f : Nat → Tri) (b : Int) (h : Tris w v n f) (hn : n * 24 ≤ 140737488355328) : Calls Try.prog 10 #[v, .int .i64 b] w fun e w' => e = .returned (.bool true) ∧ Below w.heap.size w w' := by
  obtain ⟨N, hN41, m1', m2', m3', m4', m5'⟩ := mod_nat b 200 (by omega) (by omega)
  have m1 : (b.tmod 200 + 200).tmod 200 = (N : Int) := m1'
  have m2 : (b.tmod 200 + 200) % 200 = (N : Int) := m2'
  have m3 : IntKind.i64.wrap (b.tmod 200 + 200) = b.tmod 200 + 200 := m3'
  have m4 : -200 < b.tmod 200 := m4'
  have m5 : b.tmod 200 < 200 := m5'
  clear m1' m2' m3' m4' m5'
  have HW := Lib.hid (fun w => works_any w)
  have hn2 : n ≤ 9223372036854775807 := by omega
  have HI := Lib.hid (fun W (hb : Below w.heap.size w W) => items_any W v n f (h.below hb) hn)
  have HP := Lib.hid (fun W u hu => plan_any W u n f hu (N : Nat))
  have e3 : pE n f (N : Nat) = vE n f := if_pos ⟨by omega, by omega⟩
  rw [e3] at HP
  by_cases h0 : vE n f = 0
  · obtain ⟨h64, hB, hI⟩ := vE_ok h0
    have e5 : pN n f (N : Nat) = N := by unfold pN; rw [if_pos (e3.trans h0)]; exact Int.toNat_natCast N
    rw [h0, e5] at HP
    have h' : Tris w v n (fun i => ofIt (itI n f i)) := h.congr hI
    generalize itI n f = I at *
    clear h h0 e3 e5 hI
    have HV := Lib.hid (fun W (hb : Below w.heap.size w W) => h'.below hb)
    have HIB := Lib.hid hB
    have HOK := Lib.hid (fun i => (hB i).ok)
    obtain ⟨p0, cap0, rfl, _, _⟩ := h'
    obtain ⟨i0, hi, hz0, hz1, hz2⟩ := iz_int
    clear hB
    go_enter Try.func10, Try.ntmps10
    go_wp2_with fail
    refine (HI.out _ (Below.refl _ _)).mono ?_
    rintro e w1 ⟨u1, rfl, ho1, hb1⟩
    have HT1 := Lib.hid (own_tris ho1 hn2)
    have HB1 := Lib.hid hb1
    clear ho1 hb1
    go_wp2_with fail
    refine (HP.out _ _ HT1.out).mono ?_
    intro e w2 hpost
    obtain ⟨ppz, pcz, rfl, ho2, _, hb2⟩ := hpost.one (by omega)
    rw [errV_0]
    have HN2 := Lib.hid (own_base ho2 HB1.out.size)
    have HB2 := Lib.hid (bnext HB1.out hb2)
    clear hpost ho2 hb2 HT1
    go_wp2_with (at_make; refine wpList_make_full _ rfl _ _ 30 rfl w.heap.size 3 i0 (.int .i64 0) 1 Try.underlying30 hi hz0 hz1 .i64 .i64 _ _ n rfl rfl (by first | rfl | omega) (by first | rfl | omega) (by rw [hz2]; omega) (by unfold maxLen; omega) HB2.out.size ?_; intro w3 hown3 hgrow3)
    rw [made_nums] at hown3
    have HH3 := Lib.hid (show NumsO w.heap.size w3 (.slice (some ⟨w2.heap.size, 0, none⟩) n n) n (hadM I n 0 0) from by
      have e : numL (hadM I n 0 0) n = numL (fun _ => 0) n := numL_congr fun j _ => by unfold hadM; rw [if_neg (by omega)]; rfl
      rw [NumsO, e]; exact hown3)
    have HN3 := Lib.hid (own_under HN2.out (below_of_grown hgrow3))
    have HB3 := Lib.hid (HB2.out.grown hgrow3 HB2.out.size (fun k e => by cases e))
    have HNE := Lib.hid (show ∀ bk, (Value.slice ppz N pcz).ownBlock = some bk → ¬ bk = w2.heap.size from fun bk e => by have := (World.ownsRow.lt HN2.out bk e).2; omega)
    clear hown3 hgrow3 HN2 HB1 HB2
    generalize w2.heap.size = G at *
    go_loopw [8] (fun tv wr => ∃ (t : Nat), t ≤ N ∧ tv = .int .i64 t ∧ Hid (NumsO w.heap.size wr (.slice (some ⟨G, 0, none⟩) n n) n (hadM I n t 0)) ∧ Hid (NumsO w.heap.size wr (.slice ppz N pcz) N (plz I n)) ∧ Hid (Below w.heap.size w wr)) (fun tv _ => N - (intOf tv).toNat)
    case atStart => exact ⟨0, Nat.zero_le _, rfl, HH3, HN3, HB3⟩
    case round =>
      clear HH3 HN3 HB3
      obtain ⟨t, htN, rfl, HH, HPZ0, HBt⟩ := hrel
      obtain ⟨wo, hwo⟩ : ∃ wo : World, wo = wr := ⟨_, rfl⟩
      subst hwo
      by_cases hlt : t < N
      · have hlt' : (t : Int) < (N : Int) := by omega
        have t0 : (0 : Int) ≤ (t : Int) := by omega
        go_wp2_with fail
        go_loopw [9, 10, 11] (fun bv ev iv wr => ∃ (i : Nat), i ≤ n ∧ iv = .int .i64 i ∧ bv = .int .i64 (placeZ (pkI I n t i)) ∧ ev = .int .i64 (endO I t (pkI I n t i) : Nat) ∧ Hid (NumsO w.heap.size wr (.slice (some ⟨G, 0, none⟩) n n) n (hadM I n t i)) ∧ Hid (NumsO w.heap.size wr (.slice ppz N pcz) N (plz I n)) ∧ Hid (Below w.heap.size w wr)) (fun _ _ iv _ => n - (intOf iv).toNat)
        case atStart => exact ⟨0, Nat.zero_le _, rfl, rfl, rfl, HH, HPZ0, HBt⟩
        case round =>
          clear HH HPZ0 HBt
          obtain ⟨i, hin, rfl, rfl, rfl, HO, HPZ1, HB⟩ := hrel
          by_cases hlti : i < n
          · obtain ⟨bb0, off, _, hsl, c0, c1, c2⟩ := its_at (HV.out wr HB.out) i hlti
            injection hsl with hs1 hs2' hs3
            subst hs1 hs3
            clear hs2'
            have hli' : (i : Int) < (n : Int) := by omega
            have i00 : (0 : Int) ≤ (i : Int) := by omega
            have HIBi := Lib.hid (HIB.out i)
            obtain ⟨q, hqe⟩ : ∃ q, q = (I i).q := ⟨_, rfl⟩
            obtain ⟨p, hpe⟩ : ∃ p, p = (I i).p := ⟨_, rfl⟩
            obtain ⟨s, hse⟩ : ∃ s, s = (I i).s := ⟨_, rfl⟩
            rw [← hqe] at c0
            rw [← hpe] at c1
            rw [← hse] at c2
            have hq1 : 1 ≤ q := by rw [hqe]; exact HIBi.out.q1
            have hqp : q ≤ p := by rw [hqe, hpe]; exact HIBi.out.qp
            have hp2 : p ≤ 1048576 := by rw [hpe]; exact HIBi.out.p2
            have hs2 : s ≤ 1073741824 := by rw [hse]; exact HIBi.out.s2
            have HLT := Lib.hid (show s ≤ t → (hadA I n t i < q ↔ 1 ≤ lf I n t i) from fun h => by rw [hqe]; exact had_lt HOK.out (by rw [← hse]; exact h))
            have HPE0 := Lib.hid hpe
            have HSE := Lib.hid hse
            have hGl := (World.ownsRow.lt HO.out G rfl).2
            have hGw := (World.ownsRow.lt HO.out G rfl).1
            clear hqe hpe hse
            go_upto_region 17 with fail
            generalize hW0 : wr.alloc (.cells #[.int .i64 (q : Nat), .int .i64 (p : Nat), .int .i64 (s : Nat)] 63) = W0
            obtain ⟨hb0, hs0, x0, x1, x2⟩ := new3 wr q p s _ _ hW0.symm
            clear hW0 c0 c1 c2
            have HO0 := Lib.hid (own_under HO.out hb0)
            have HP0 := Lib.hid (own_under HPZ1.out hb0)
            have HB0 := Lib.hid (bnext HB.out hb0)
            have hXG : wr.heap.size ≠ G := by omega
            clear hb0 HO HPZ1 HB
            generalize wr.heap.size = X at *
            by_cases hst : t < s
            · have hst' : (t : Int) < (s : Int) := by omega
              have HNX := Lib.hid (pk_no (I := I) (n := n) (t := t) (i := i) (lf_early (I := I) (n := n) (i := i) t (by rw [← HSE.out]; exact hst)).2)
              have HON := Lib.hid (show NumsO w.heap.size W0 (.slice (some ⟨G, 0, none⟩) n n) n (hadM I n t (i + 1)) from by
                have e : numL (hadM I n t i) n = numL (hadM I n t (i + 1)) n := hadM_next (by
                  rw [hadB_early t (by rw [← HSE.out]; omega)]
                  unfold hadA
                  rw [if_neg (by rw [← HSE.out]; omega)])
                show W0.ownsRow _ _ 1 _ n (numL (hadM I n t (i + 1)) n)
                rw [← e]; exact HO0.out)
              generalize hpz : placeZ (pkI I n t i) = bz at *
              generalize hpe : endO I t (pkI I n t i) = ez at *
              have HPZ := Lib.hid hpz
              have HPE := Lib.hid hpe
              clear hpz hpe hst
              go_wp2_with fail
              go_roundw
              case rel => exact ⟨i + 1, by omega, by go_num, by rw [HNX.out, HPZ.out], by rw [HNX.out, HPE.out], HON, HP0, HB0⟩
              case measure => simp [intOf]; omega
            · have hst0 : ¬ t < s := hst
              replace hst : s ≤ t := by omega
              have hst' : (s : Int) ≤ (t : Int) := by omega
              obtain ⟨md, hmd⟩ : ∃ md, md = (t - s) % p := ⟨_, rfl⟩
              have hmdp : md < p := by rw [hmd]; exact Nat.mod_lt _ (by omega)
              have hmdt : md ≤ t - s := by rw [hmd]; exact Nat.mod_le _ _
              have hmd1 : ((t : Int) - (s : Int)) % (p : Int) = (md : Int) := by rw [hmd, show ((t : Int) - (s : Int)) = ((t - s : Nat) : Int) by omega]; rfl
              have hmd2 : ((t : Int) - (s : Int)).tmod (p : Int) = (md : Int) := by rw [Int.tmod_eq_emod_of_nonneg (by omega)]; exact hmd1
              obtain ⟨F, hFe⟩ : ∃ F, F = t - md + p := ⟨_, rfl⟩
              have HFI := Lib.hid (show fin (I i) t = F by unfold fin; rw [← HSE.out, ← HPE0.out, ← hmd, hFe])
              have hF1 : F + md ≤ t + p := by omega
              have hF2 : t + p ≤ F + md := by omega
              clear hFe
              obtain ⟨hA, hHA⟩ : ∃ hA, hadA I n t i = hA := ⟨_, rfl⟩
              have HHA := Lib.hid hHA
              clear hHA hst0
              by_cases hbe : md = 0
              · have HBE := Lib.hid (show Begins (I i) t from ⟨by rw [← HSE.out]; exact hst, by rw [← HSE.out, ← HPE0.out, ← hmd]; exact hbe⟩)
                have hmz : ((md : Int) == 0) = true := by rw [beq_iff_eq]; omega
                have g0 : W0.cell? ⟨G, i, none⟩ = some (.int .i64 (hadM I n t i i)) := by rw [World.ownsRow.cellAt HO0.out i (by omega)]; exact lst_at hlti
                have gf := World.ownsRow.frozenAt HO0.out i
                generalize hadM I n t i i = old at g0
                clear hmd hbe
                go_upto_region 20 with fail
                have HKW := Lib.hid ((Keeps.refl (fun x => x = G) W0).setCell ⟨G, i, none⟩ (.int .i64 0) rfl)
                have HON := Lib.hid (show NumsO w.heap.size (W0.setCell ⟨G, i, none⟩ (.int .i64 0)) (.slice (some ⟨G, 0, none⟩) n n) n (hadM I n t (i + 1)) from by
                  have h1 := (World.ownsRow.stored HO0.out i (.int .i64 0)).1
                  rw [numL_set, hadM_set (had_reset HBE.out)] at h1
                  exact h1)
                have HPN := Lib.hid (own_keep HP0.out HKW.out HNE.out)
                have HBN := Lib.hid (HB0.out.setCell (p := ⟨G, i, none⟩) hGw (.int .i64 0))
                replace x0 := (HKW.out.cell (p := ⟨X, 0, none⟩) hs0 hXG).trans x0
                replace x1 := (HKW.out.cell (p := ⟨X, 1, none⟩) hs0 hXG).trans x1
                replace x2 := (HKW.out.cell (p := ⟨X, 2, none⟩) hs0 hXG).trans x2
                clear HKW g0 gf
                generalize W0.setCell ⟨G, i, none⟩ (.int .i64 0) = W4 at *
                have e20 : IntKind.i64.wrap ((t : Int) - (s : Int)) = (t : Int) - (s : Int) := IntWalk.i64_in _ (by omega)
                have e21 : IntKind.i64.wrap ((t : Int) - (md : Int)) = (t : Int) - (md : Int) := IntWalk.i64_in _ (by omega)
                have e22 : IntKind.i64.wrap ((t : Int) - (md : Int) + (p : Int)) = (F : Int) := by rw [show (t : Int) - (md : Int) + (p : Int) = (F : Int) by omega]; exact IntWalk.i64_in _ (by omega)
                have hp0n : ¬ p = 0 := by omega
                have hp0i : ((p : Int) == 0) = false := by rw [beq_eq_false_iff_ne]; omega
                go_quiet (fail)
                obtain ⟨W5, hW5⟩ : ∃ W5 : World, W5 = W4.drewN nq := ⟨_, rfl⟩
                have HO5 := Lib.hid (show NumsO w.heap.size W5 (.slice (some ⟨G, 0, none⟩) n n) n (hadM I n t (i + 1)) from by rw [hW5]; exact HON.out)
                have HP5 := Lib.hid (show NumsO w.heap.size W5 (.slice ppz N pcz) N (plz I n) from by rw [hW5]; exact HPN.out)
                have HB5 := Lib.hid (show Below w.heap.size w W5 from by rw [hW5]; exact below_drewN HBN.out nq)
                have y0 : W5.cell? ⟨X, 0, none⟩ = some (.int .i64 (q : Nat)) := by rw [hW5]; exact x0
                have g5 : W5.cell? ⟨G, i, none⟩ = some (.int .i64 (hA : Nat)) := by
                  rw [World.ownsRow.cellAt HO5.out i (by omega)]
                  refine (lst_at hlti).trans ?_
                  unfold hadM
                  rw [if_pos (by omega), HHA.out]
                rw [← hW5]
                clear hW5 e20 e21 e22 x0 x1 x2 hmd1 hmd2
                by_cases hq : hA < q
                · have hq' : decide (hA < q) = true := decide_eq_true hq
                  have hl1 : 1 ≤ lf I n t i := (HLT.out hst).1 (by rw [HHA.out]; exact hq)
                  cases hpk : pkI I n t i with
                  | none =>
                    have HNX := Lib.hid (pk_first hl1 hpk)
                    rw [show placeZ none = (-1 : Int) from rfl]
                    go_upto_region 21 with fail
                    go_quiet (fail)
                    have HB6 := Lib.hid (below_drewN HB5.out nq)
                    have HO6 := Lib.hid (own_drewN HO5.out nq)
                    have HP6 := Lib.hid (own_drewN HP5.out nq)
                    clear hpk hl1
                    go_wp2_with fail
                    go_roundw
                    case rel => exact ⟨i + 1, by omega, by go_num, by rw [HNX.out]; rfl, by rw [HNX.out]; show _ = Value.int .i64 ((fin (I i) t : Nat) : Int); rw [HFI.out], HO6, HP6, HB6⟩
                    case measure => simp [intOf]; omega
                  | some bb =>
                    have hbz : ¬ (bb : Int) < 0 := by omega
                    have hbz' : decide ((bb : Int) < 0) = false := decide_eq_false hbz
                    rw [show placeZ (some bb) = (bb : Int) from rfl, show endO I t (some bb) = fin (I bb) t from rfl]
                    have HFB := Lib.hid (rfl : fin (I bb) t = fin (I bb) t)
                    by_cases hfl : F < fin (I bb) t
                    · have HNX := Lib.hid (pk_yes hl1 hpk (by rw [HFI.out]; exact hfl))
                      generalize fin (I bb) t = FB at *
                      have hfl' : decide (F < FB) = true := decide_eq_true hfl
                      go_upto_region 21 with fail
                      go_quiet (fail)
                      have HB6 := Lib.hid (below_drewN HB5.out nq)
                      have HO6 := Lib.hid (own_drewN HO5.out nq)
                      have HP6 := Lib.hid (own_drewN HP5.out nq)
                      clear hpk hl1
                      go_wp2_with fail
                      go_roundw
                      case rel => exact ⟨i + 1, by omega, by go_num, by rw [HNX.out]; rfl, by rw [HNX.out]; show _ = Value.int .i64 ((fin (I i) t : Nat) : Int); rw [HFI.out], HO6, HP6, HB6⟩
                      case measure => simp [intOf]; omega
                    · have HNX := Lib.hid (pk_behind hpk (by rw [HFI.out]; exact hfl))
                      obtain ⟨FB, hFB⟩ : ∃ FB, FB = fin (I bb) t := ⟨_, rfl⟩
                      rw [← hFB] at hfl ⊢
                      have HFB := Lib.hid hFB
                      have hfl' : decide (F < FB) = false := decide_eq_false hfl
                      clear hFB
                      go_upto_region 21 with fail
                      go_quiet (fail)
                      have HB6 := Lib.hid (below_drewN HB5.out nq)
                      have HO6 := Lib.hid (own_drewN HO5.out nq)
                      have HP6 := Lib.hid (own_drewN HP5.out nq)
                      clear hpk hl1 hfl
                      go_wp2_with fail
                      go_roundw
                      case rel => exact ⟨i + 1, by omega, by go_num, by rw [HNX.out]; rfl, by rw [HNX.out]; show _ = Value.int .i64 ((fin (I bb) t : Nat) : Int); rw [HFB.out], HO6, HP6, HB6⟩
                      case measure => simp [intOf]; omega
                · have hq' : decide (hA < q) = false := decide_eq_false hq
                  have hl0 : lf I n t i = 0 := by
                    apply Classical.byContradiction
                    intro h
                    have := (HLT.out hst).2 (by omega)
                    rw [HHA.out] at this
                    exact hq this
                  have HNX := Lib.hid (pk_no hl0)
                  generalize hpz : placeZ (pkI I n t i) = bz at *
                  generalize hpe : endO I t (pkI I n t i) = ez at *
                  have HPZ := Lib.hid hpz
                  have HPE := Lib.hid hpe
                  clear hq hl0 hpz hpe
                  go_upto_region 21 with fail
                  go_quiet (fail)
                  have HB6 := Lib.hid (below_drewN HB5.out nq)
                  have HO6 := Lib.hid (own_drewN HO5.out nq)
                  have HP6 := Lib.hid (own_drewN HP5.out nq)
                  go_wp2_with fail
                  go_roundw
                  case rel => exact ⟨i + 1, by omega, by go_num, by rw [HNX.out, HPZ.out], by rw [HNX.out, HPE.out], HO6, HP6, HB6⟩
                  case measure => simp [intOf]; omega
              · have HBE := Lib.hid (show ¬ Begins (I i) t from fun k => hbe (by have := k.2; rw [← HSE.out, ← HPE0.out, ← hmd] at this; exact this))
                have hmz : ((md : Int) == 0) = false := by rw [beq_eq_false_iff_ne]; omega
                have HON := Lib.hid (show NumsO w.heap.size W0 (.slice (some ⟨G, 0, none⟩) n n) n (hadM I n t (i + 1)) from by
                  have e : numL (hadM I n t i) n = numL (hadM I n t (i + 1)) n := hadM_next (had_stays HOK.out (by rw [← HSE.out]; exact hst) HBE.out)
                  show W0.ownsRow _ _ 1 _ n (numL (hadM I n t (i + 1)) n)
                  rw [← e]; exact HO0.out)
                have HPN := HP0
                have HBN := HB0
                clear hmd hbe
                go_upto_region 20 with fail
                have e20 : IntKind.i64.wrap ((t : Int) - (s : Int)) = (t : Int) - (s : Int) := IntWalk.i64_in _ (by omega)
                have e21 : IntKind.i64.wrap ((t : Int) - (md : Int)) = (t : Int) - (md : Int) := IntWalk.i64_in _ (by omega)
                have e22 : IntKind.i64.wrap ((t : Int) - (md : Int) + (p : Int)) = (F : Int) := by rw [show (t : Int) - (md : Int) + (p : Int) = (F : Int) by omega]; exact IntWalk.i64_in _ (by omega)
                have hp0n : ¬ p = 0 := by omega
                have hp0i : ((p : Int) == 0) = false := by rw [beq_eq_false_iff_ne]; omega
                go_quiet (fail)
                obtain ⟨W5, hW5⟩ : ∃ W5 : World, W5 = W0.drewN nq := ⟨_, rfl⟩
                have HO5 := Lib.hid (show NumsO w.heap.size W5 (.slice (some ⟨G, 0, none⟩) n n) n (hadM I n t (i + 1)) from by rw [hW5]; exact HON.out)
                have HP5 := Lib.hid (show NumsO w.heap.size W5 (.slice ppz N pcz) N (plz I n) from by rw [hW5]; exact HPN.out)
                have HB5 := Lib.hid (show Below w.heap.size w W5 from by rw [hW5]; exact below_drewN HBN.out nq)
                have y0 : W5.cell? ⟨X, 0, none⟩ = some (.int .i64 (q : Nat)) := by rw [hW5]; exact x0
                have g5 : W5.cell? ⟨G, i, none⟩ = some (.int .i64 (hA : Nat)) := by
                  rw [World.ownsRow.cellAt HO5.out i (by omega)]
                  refine (lst_at hlti).trans ?_
                  unfold hadM
                  rw [if_pos (by omega), HHA.out]
                rw [← hW5]
                clear hW5 e20 e21 e22 x0 x1 x2 hmd1 hmd2
                by_cases hq : hA < q
                · have hq' : decide (hA < q) = true := decide_eq_true hq
                  have hl1 : 1 ≤ lf I n t i := (HLT.out hst).1 (by rw [HHA.out]; exact hq)
                  cases hpk : pkI I n t i with
                  | none =>
                    have HNX := Lib.hid (pk_first hl1 hpk)
                    rw [show placeZ none = (-1 : Int) from rfl]
                    go_upto_region 21 with fail
                    go_quiet (fail)
                    have HB6 := Lib.hid (below_drewN HB5.out nq)
                    have HO6 := Lib.hid (own_drewN HO5.out nq)
                    have HP6 := Lib.hid (own_drewN HP5.out nq)
                    clear hpk hl1
                    go_wp2_with fail
                    go_roundw
                    case rel => exact ⟨i + 1, by omega, by go_num, by rw [HNX.out]; rfl, by rw [HNX.out]; show _ = Value.int .i64 ((fin (I i) t : Nat) : Int); rw [HFI.out], HO6, HP6, HB6⟩
                    case measure => simp [intOf]; omega
                  | some bb =>
                    have hbz : ¬ (bb : Int) < 0 := by omega
                    have hbz' : decide ((bb : Int) < 0) = false := decide_eq_false hbz
                    rw [show placeZ (some bb) = (bb : Int) from rfl, show endO I t (some bb) = fin (I bb) t from rfl]
                    have HFB := Lib.hid (rfl : fin (I bb) t = fin (I bb) t)
                    by_cases hfl : F < fin (I bb) t
                    · have HNX := Lib.hid (pk_yes hl1 hpk (by rw [HFI.out]; exact hfl))
                      generalize fin (I bb) t = FB at *
                      have hfl' : decide (F < FB) = true := decide_eq_true hfl
                      go_upto_region 21 with fail
                      go_quiet (fail)
                      have HB6 := Lib.hid (below_drewN HB5.out nq)
                      have HO6 := Lib.hid (own_drewN HO5.out nq)
                      have HP6 := Lib.hid (own_drewN HP5.out nq)
                      clear hpk hl1
                      go_wp2_with fail
                      go_roundw
                      case rel => exact ⟨i + 1, by omega, by go_num, by rw [HNX.out]; rfl, by rw [HNX.out]; show _ = Value.int .i64 ((fin (I i) t : Nat) : Int); rw [HFI.out], HO6, HP6, HB6⟩
                      case measure => simp [intOf]; omega
                    · have HNX := Lib.hid (pk_behind hpk (by rw [HFI.out]; exact hfl))
                      obtain ⟨FB, hFB⟩ : ∃ FB, FB = fin (I bb) t := ⟨_, rfl⟩
                      rw [← hFB] at hfl ⊢
                      have HFB := Lib.hid hFB
                      have hfl' : decide (F < FB) = false := decide_eq_false hfl
                      clear hFB
                      go_upto_region 21 with fail
                      go_quiet (fail)
                      have HB6 := Lib.hid (below_drewN HB5.out nq)
                      have HO6 := Lib.hid (own_drewN HO5.out nq)
                      have HP6 := Lib.hid (own_drewN HP5.out nq)
                      clear hpk hl1 hfl
                      go_wp2_with fail
                      go_roundw
                      case rel => exact ⟨i + 1, by omega, by go_num, by rw [HNX.out]; rfl, by rw [HNX.out]; show _ = Value.int .i64 ((fin (I bb) t : Nat) : Int); rw [HFB.out], HO6, HP6, HB6⟩
                      case measure => simp [intOf]; omega
                · have hq' : decide (hA < q) = false := decide_eq_false hq
                  have hl0 : lf I n t i = 0 := by
                    apply Classical.byContradiction
                    intro h
                    have := (HLT.out hst).2 (by omega)
                    rw [HHA.out] at this
                    exact hq this
                  have HNX := Lib.hid (pk_no hl0)
                  generalize hpz : placeZ (pkI I n t i) = bz at *
                  generalize hpe : endO I t (pkI I n t i) = ez at *
                  have HPZ := Lib.hid hpz
                  have HPE := Lib.hid hpe
                  clear hq hl0 hpz hpe
                  go_upto_region 21 with fail
                  go_quiet (fail)
                  have HB6 := Lib.hid (below_drewN HB5.out nq)
                  have HO6 := Lib.hid (own_drewN HO5.out nq)
                  have HP6 := Lib.hid (own_drewN HP5.out nq)
                  go_wp2_with fail
                  go_roundw
                  case rel => exact ⟨i + 1, by omega, by go_num, by rw [HNX.out, HPZ.out], by rw [HNX.out, HPE.out], HO6, HP6, HB6⟩
                  case measure => simp [intOf]; omega
          · have hge : decide (i < n) = false := decide_eq_false hlti
            obtain rfl : i = n := by omega
            clear hlti
            have hr0 : wr.cell? ⟨G, 0, none⟩ = wr.cell? ⟨G, 0, none⟩ := rfl
            clear hr0
            obtain ⟨gp, _, hvp, _, _⟩ := own_block2 HPZ1.out (by omega)
            injection hvp with hv1 _ _
            subst hv1
            have z0 : wr.cell? ⟨gp, t, none⟩ = some (.int .i64 (plz I i t)) := by rw [World.ownsRow.cellAt HPZ1.out t (by omega)]; exact lst_at hlt
            have HPL := Lib.hid (show plz I i t = placeZ (pkI I i t i) from rfl)
            rw [HPL.out] at z0
            cases hpk : pkI I i t i with
            | none =>
              rw [hpk] at z0
              rw [show placeZ none = (-1 : Int) from rfl] at z0 ⊢
              have HON := Lib.hid (show NumsO w.heap.size wr (.slice (some ⟨G, 0, none⟩) i i) i (hadM I i (t + 1) 0) from by
                have e := hadM_none (I := I) (n := i) (t := t) hpk
                show wr.ownsRow _ _ 1 _ i (numL (hadM I i (t + 1) 0) i)
                rw [← e]; exact HO.out)
              clear hpk
              go_wp2_with fail
              go_roundw
              case rel => exact ⟨t + 1, by omega, by go_num, HON, HPZ1, HB⟩
              case measure => simp [intOf]; omega
            | some k =>
              have hkn := pick_lt hpk
              rw [hpk] at z0
              rw [show placeZ (some k) = (k : Int) from rfl] at z0 ⊢
              have hGw := (World.ownsRow.lt HO.out G rfl).1
              have g0 : wr.cell? ⟨G, k, none⟩ = some (.int .i64 (hadM I i t i k)) := by rw [World.ownsRow.cellAt HO.out k (by omega)]; exact lst_at hkn
              have gf := World.ownsRow.frozenAt HO.out k
              have hbd : 0 ≤ hadM I i t i k ∧ hadM I i t i k ≤ 1048576 := by
                have h1 := (HIB.out k).qp
                have h2 := (HIB.out k).p2
                unfold hadM hadA
                rw [if_pos hkn]
                split <;> omega
              have hk0 : (0 : Int) ≤ (k : Int) := by omega
              have hkn' : (k : Int) < (i : Int) := by omega
              obtain ⟨hb1, hb2⟩ := hbd
              have HON := Lib.hid (show NumsO w.heap.size (wr.setCell ⟨G, k, none⟩ (.int .i64 (hadM I i t i k + 1))) (.slice (some ⟨G, 0, none⟩) i i) i (hadM I i (t + 1) 0) from by
                have h1 := (World.ownsRow.stored HO.out k (.int .i64 (hadM I i t i k + 1))).1
                rw [numL_set, hadM_some (I := I) (n := i) (t := t) (k := k) hpk] at h1
                exact h1)
              have HPN := Lib.hid (own_keep HPZ1.out ((Keeps.refl (fun x => x = G) wr).setCell ⟨G, k, none⟩ (.int .i64 (hadM I i t i k + 1)) rfl) HNE.out)
              have HBN := Lib.hid (HB.out.setCell (p := ⟨G, k, none⟩) hGw (.int .i64 (hadM I i t i k + 1)))
              generalize hadM I i t i k = old at *
              clear hpk
              go_wp2_with fail
              go_roundw
              case rel => exact ⟨t + 1, by omega, by go_num, HON, HPN, HBN⟩
              case measure => simp [intOf]; omega
      · have hge : (N : Int) ≤ (t : Int) := by omega
        clear hlt
        go_wp2_with fail
        refine (HW.out _).mono ?_
        rintro e w8 ⟨rfl, hb8⟩
        have HB8 := Lib.hid (bnext HBt.out hb8)
        clear hb8
        go_wp2_with fail
        go_ret
        exact ⟨rfl, HB8.out⟩
  · have HER := Lib.hid (errV_ne h0)
    have e5 : pN n f (N : Nat) = 0 := by unfold pN; rw [if_neg (fun k => h0 (e3 ▸ k))]
    rw [e5, HER.out] at HP
    obtain ⟨p0, cap0, rfl, _, _⟩ := h
    generalize plz (itI n f) n = pz at *
    generalize vE n f = er at *
    clear h0 e3 e5
    go_enter Try.func10, Try.ntmps10
    go_wp2_with fail
    refine (HI.out _ (Below.refl _ _)).mono ?_
    rintro e w1 ⟨u1, rfl, ho1, hb1⟩
    have HT1 := Lib.hid (own_tris ho1 hn2)
    have HB1 := Lib.hid hb1
    clear ho1 hb1
    go_wp2_with fail
    refine (HP.out _ _ HT1.out).mono ?_
    intro e w2 hpost
    obtain ⟨p2, cap2, rfl, _, _, hb2⟩ := hpost.one (by omega)
    have HB2 := Lib.hid (bnext HB1.out hb2)
    clear hpost hb2 HT1
    go_wp2_with fail
    refine (HW.out _).mono ?_
    rintro e w8 ⟨rfl, hb8⟩
    have HB8 := Lib.hid (bnext HB2.out hb8)
    clear hb8
    go_wp2_with fail
    go_ret
    exact ⟨rfl, HB8.out⟩
end Go.Proofs.Ytfahpjilgdlhiaa
