/- The document's own Plan; no condition but those that each row names. -/
import Derived.Test.YtfahpjilgdlhiaaWThree
import Derived.Test.YtfahpjilgdlhiaaWRPick
import Derived.Test.YtfahpjilgdlhiaaWPlanP
import Derived.Test.YtfahpjilgdlhiaaWLawA
import Derived.Deep.RegionLaw
import Derived.Deep.DeepCutAuto
namespace Go.Proofs.Ytfahpjilgdlhiaa
open Go.RowKit Edf

/-- What is left of each, while a tick's look goes over the items. -/
def lfM (I : Nat → It) (n t i j : Nat) : Int := if j < i then (lf I n t j : Nat) else (st I n t j : Nat)
/-- The document's children at a tick. -/
def rC (I : Nat → It) (n t i : Nat) : Tri := if t < (I i).s then ⟨i, 0, 0⟩ else ⟨i, (lf I n t i : Nat), (fin (I i) t : Nat)⟩
theorem rC_pick {I : Nat → It} {n : Nat} (t : Nat) : pick (rC I n t) n = pl I n t := pick_congr n fun j _ => by
  unfold rC
  by_cases hs : t < (I j).s
  · rw [if_pos hs]
    refine .inr ⟨fun h => by have h3 : (0 : Int) < 0 := h; omega, fun h => ?_⟩
    have h2 : (0 : Int) < ((lf I n t j : Nat) : Int) := h
    have := (lf_early (I := I) (n := n) (i := j) t hs).2
    omega
  · rw [if_neg hs]; exact .inl rfl
theorem lfM_stay {I : Nat → It} {n N t i : Nat} (hb : ¬ Begins (I i) t) : numL (lfM I n t i) N = numL (lfM I n t (i + 1)) N := numL_congr fun j _ => by
  unfold lfM
  by_cases e : j = i
  · subst e
    rw [if_neg (by omega), if_pos (by omega)]
    have : lf I n t j = st I n t j := if_neg hb
    rw [this]
  · by_cases h : j < i
    · rw [if_pos h, if_pos (by omega)]
    · rw [if_neg h, if_neg (by omega)]
theorem lfM_set {I : Nat → It} {n N t i : Nat} (hb : Begins (I i) t) : numL (upd (lfM I n t i) i (I i).q) N = numL (lfM I n t (i + 1)) N := numL_congr fun j _ => by
  unfold upd lfM
  by_cases e : j = i
  · subst e
    rw [if_pos rfl, if_pos (by omega)]
    have : lf I n t j = (I j).q := if_pos hb
    rw [this]
  · rw [if_neg e]
    by_cases h : j < i
    · rw [if_pos h, if_pos (by omega)]
    · rw [if_neg h, if_neg (by omega)]
theorem lfM_none {I : Nat → It} {n t : Nat} (h : pl I n t = none) : numL (lfM I n t n) n = numL (lfM I n (t + 1) 0) n := numL_congr fun j hj => by
  unfold lfM
  rw [if_pos hj, if_neg (by omega), st_succ]
  unfold dec
  rw [h, if_neg (by simp)]
theorem lfM_some {I : Nat → It} {n t k : Nat} (h : pl I n t = some k) : numL (upd (lfM I n t n) k (lfM I n t n k - 1)) n = numL (lfM I n (t + 1) 0) n := numL_congr fun j hj => by
  have hk := pl_lt h
  have hl := pl_left h
  unfold upd lfM
  rw [if_pos hk, if_neg (by omega : ¬ j < 0), st_succ]
  unfold dec
  by_cases e : j = k
  · subst e; rw [if_pos rfl, if_pos h]; omega
  · rw [if_neg e, if_pos hj, if_neg (fun k2 => e (by rw [h] at k2; exact (Option.some.inj k2).symm))]
theorem lf_leR {I : Nat → It} {n : Nat} (hI : ∀ i, (I i).Ok) (t i : Nat) : lf I n t i ≤ (I i).q := by
  have hp : 1 ≤ (I i).p := by have := hI i; unfold It.Ok at this; omega
  rcases period hp t with h | ⟨k, r, hr, e⟩
  · rw [(lf_early t h).2]; omega
  · have := lf_cnt (I := I) (n := n) (i := i) (hI i) k r hr
    rw [← e] at this
    omega
set_option maxHeartbeats 4000000 in
set_option maxRecDepth 100000 in
theorem rplan_ok (w : World) (v : Value) (n : Nat) (f : Nat → Tri) (h : Tris w v n f) (h0 : vE n f = 0) (N : Nat) (hN : N ≤ 4096) :
    Calls Try.prog 20 #[v, .int .i64 (N : Nat)] w (NumsPost w N (plz (itI n f) n) (.int .i64 0)) := by
  have HVA := Lib.hid (fun W (hb : Below w.heap.size w W) => rvalid_any W v n f (h.below hb))
  obtain ⟨h64, hB, hI⟩ := vE_ok h0
  have h' : Tris w v n (fun i => ofIt (itI n f i)) := h.congr hI
  rw [h0] at HVA
  generalize itI n f = I at *
  clear h0 hI h
  have HV := Lib.hid (fun W (hb : Below w.heap.size w W) => h'.below hb)
  have HIB := Lib.hid hB
  have HOK := Lib.hid (fun i => (hB i).ok)
  obtain ⟨p1, cap1, rfl, hm, _⟩ := h'
  obtain ⟨i0, hi, hz0, hz1, hz2⟩ := iz_int
  obtain ⟨i3, hi3, hy0, hy1, hy2⟩ := info_parts Try.infCR
  clear hB
  go_enter Try.func20, Try.ntmps20
  go_wp2_with fail
  refine (HVA.out _ (Below.refl _ _)).mono ?_
  rintro e w1 ⟨rfl, hb1⟩
  have HB1 := Lib.hid hb1
  clear hb1
  go_wp2_with (at_make; refine wpList_make_full _ rfl _ _ 30 rfl w.heap.size 3 i0 (.int .i64 0) 1 Try.underlying30 hi hz0 hz1 .i64 .i64 _ _ n rfl rfl (by first | rfl | omega) (by first | rfl | omega) (by rw [hz2]; omega) (by unfold maxLen; omega) HB1.out.size ?_; intro w2 hown2 hgrow2)
  rw [made_nums] at hown2
  have HT2 := Lib.hid (show Three w.heap.size w2 w1.heap.size n (lfM I n 0 0) (.slice none 0 0) 0 (plz I n) (.slice none 0 0) 0 (rC I n 0) from by
    have e : numL (fun _ => (0 : Int)) n = numL (lfM I n 0 0) n := numL_congr fun j _ => by unfold lfM; rw [if_neg (by omega)]; rfl
    rw [e] at hown2
    exact ⟨hown2, nil_nums _ _ _, nil_tris _ _ _ _, (fun b e => by cases e), (fun b e => by cases e), (fun b e => by cases e)⟩)
  have HB2 := Lib.hid (HB1.out.grown hgrow2 HB1.out.size (fun k e => by cases e))
  clear hown2 hgrow2 HB1
  generalize w1.heap.size = L at *
  go_loopw [8, 9] (fun ov tv wr => ∃ (t : Nat), t ≤ N ∧ tv = .int .i64 t ∧ (∃ cv m hh, Hid (Three w.heap.size wr L n (lfM I n t 0) ov t (plz I n) cv m hh)) ∧ Hid (Below w.heap.size w wr)) (fun _ tv _ => N - (intOf tv).toNat)
  case atStart => exact ⟨0, Nat.zero_le _, rfl, ⟨_, _, _, HT2⟩, HB2⟩
  case round =>
    clear HT2 HB2
    obtain ⟨t, htN, rfl, ⟨cv0, m0, hh0, HT0⟩, HBt⟩ := hrel
    have HT := Lib.hid (HT0.out.noC (rC I n t))
    clear HT0
    obtain ⟨wo, hwo⟩ : ∃ wo : World, wo = wr := ⟨_, rfl⟩
    subst hwo
    by_cases hlt : t < N
    · have hlt' : (t : Int) < (N : Int) := by omega
      have t0 : (0 : Int) ≤ (t : Int) := by omega
      obtain ⟨po, co, hov⟩ : ∃ po co, u8 = .slice po t co := by obtain ⟨po, co, e, _⟩ := own_small HT.out.o; exact ⟨po, co, e⟩
      subst hov
      go_wp2_with fail
      go_loopw [10, 11] (fun cv iv wr => ∃ (i : Nat), i ≤ n ∧ iv = .int .i64 i ∧ Hid (Three w.heap.size wr L n (lfM I n t i) (.slice po t co) t (plz I n) cv i (rC I n t)) ∧ Hid (Below w.heap.size w wr)) (fun _ iv _ => n - (intOf iv).toNat)
      case atStart => exact ⟨0, Nat.zero_le _, rfl, HT, HBt⟩
      case round =>
        clear HT HBt
        obtain ⟨i, hin, rfl, HT, HB⟩ := hrel
        by_cases hlti : i < n
        · obtain ⟨bb0, off, _, hsl, c0, c1, c2⟩ := its_at (HV.out wr HB.out) i hlti
          injection hsl with hs1 hs2' hs3
          subst hs1 hs3
          clear hs2'
          have hli' : (i : Int) < (n : Int) := by omega
          have i00 : (0 : Int) ≤ (i : Int) := by omega
          have HIBi := Lib.hid (HIB.out i)
          obtain ⟨q, hqe⟩ : ∃ q, q = (I i).q := ⟨_, rfl⟩
          obtain ⟨p, hpe⟩ : ∃ p, p = (I i).p := ⟨_, rfl⟩
          obtain ⟨s, hse⟩ : ∃ s, s = (I i).s := ⟨_, rfl⟩
          rw [← hqe] at c0
          rw [← hpe] at c1
          rw [← hse] at c2
          have hq1 : 1 ≤ q := by rw [hqe]; exact HIBi.out.q1
          have hqp : q ≤ p := by rw [hqe, hpe]; exact HIBi.out.qp
          have hp2 : p ≤ 1048576 := by rw [hpe]; exact HIBi.out.p2
          have hs2 : s ≤ 1073741824 := by rw [hse]; exact HIBi.out.s2
          have HQE := Lib.hid hqe
          have HPE0 := Lib.hid hpe
          have HSE := Lib.hid hse
          have hLl := (World.ownsRow.lt HT.out.l L rfl).2
          have hLw := (World.ownsRow.lt HT.out.l L rfl).1
          obtain ⟨pc0, cc0, hcv⟩ : ∃ pc0 cc0, u10 = .slice pc0 i cc0 := by obtain ⟨po, co, e, _⟩ := own_small HT.out.c; exact ⟨po, co, e⟩
          subst hcv
          clear hqe hpe hse
          go_upto_region 16 with fail
          generalize hW0 : wr.alloc (.cells #[.int .i64 (q : Nat), .int .i64 (p : Nat), .int .i64 (s : Nat)] 63) = W0
          obtain ⟨hb0, hs0, x0, x1, x2⟩ := new3 wr q p s _ _ hW0.symm
          clear hW0 c0 c1 c2
          have HT0 := Lib.hid (HT.out.below hb0)
          have HB0 := Lib.hid (bnext HB.out hb0)
          have hXL : wr.heap.size ≠ L := by omega
          clear hb0 HT HB
          generalize wr.heap.size = X at *
          by_cases hst : t < s
          · have hst' : (t : Int) < (s : Int) := by omega
            have HRC := Lib.hid (show rC I n t i = ⟨i, 0, 0⟩ by unfold rC; rw [if_pos (by rw [← HSE.out]; exact hst)])
            have HTN := Lib.hid (HT0.out.congrL (lfM_stay (I := I) (n := n) (N := n) (t := t) (i := i) (fun k => by have := k.1; rw [← HSE.out] at this; omega)))
            have HT4 := Lib.hid (HTN.out.below ((Below.refl W0.heap.size W0).alloc (Nat.le_refl _) (.cells #[.int .i64 (i : Nat), .int .i64 0, .int .i64 0] ChR)))
            have HB4 := Lib.hid (below_alloc HB0.out (.cells #[.int .i64 (i : Nat), .int .i64 0, .int .i64 0] ChR))
            clear hst
            go_wp2_with (at_builtin; refine wpList_append_ch rfl _ _ rfl w.heap.size _ i (triL (rC I n t) i) rfl HT4.out.c _ 1 [.int .i64 (i : Nat), .int .i64 0, .int .i64 0] rfl (src_tri W0 (i : Nat) 0 0 ChR) (by intro u hu; simp at hu; rcases hu with rfl | rfl | rfl <;> rfl) (by omega) HB4.out.size ?_)
            intro pc cc w5 hown5 hgrow5 hat5
            have HT5 := Lib.hid (HT4.out.appC (h' := rC I n t) (show TrisO ChR w.heap.size w5 (.slice pc (i + 1) cc) (i + 1) (rC I n t) from by
              show w5.ownsRow _ ChR 3 _ _ (triL (rC I n t) (i + 1))
              rw [triL_succ, HRC.out]
              exact hown5) hgrow5 (fun b e => (hat5 b e).imp id (fun h => by simp at h ⊢; omega)))
            have HB5 := Lib.hid (HB4.out.grown hgrow5 HB4.out.size (fun b e => (World.ownsRow.lt HT4.out.c b e).1))
            clear hown5 hgrow5 hat5
            go_wp2_with fail
            go_roundw
            case rel => exact ⟨i + 1, by omega, by go_num, HT5, HB5⟩
            case measure => simp [intOf]; omega
          · have hst0 : ¬ t < s := hst
            replace hst : s ≤ t := by omega
            have hst' : (s : Int) ≤ (t : Int) := by omega
            obtain ⟨md, hmd⟩ : ∃ md, md = (t - s) % p := ⟨_, rfl⟩
            have hmdp : md < p := by rw [hmd]; exact Nat.mod_lt _ (by omega)
            have hmdt : md ≤ t - s := by rw [hmd]; exact Nat.mod_le _ _
            have hmd1 : ((t : Int) - (s : Int)) % (p : Int) = (md : Int) := by rw [hmd, show ((t : Int) - (s : Int)) = ((t - s : Nat) : Int) by omega]; rfl
            obtain ⟨F, hFe⟩ : ∃ F, F = t - md + p := ⟨_, rfl⟩
            have HFI := Lib.hid (show fin (I i) t = F by unfold fin; rw [← HSE.out, ← HPE0.out, ← hmd, hFe])
            have e21 : IntKind.i64.wrap ((t : Int) - (md : Int)) = (t : Int) - (md : Int) := IntWalk.i64_in _ (by omega)
            have e22 : IntKind.i64.wrap ((t : Int) - (md : Int) + (p : Int)) = (F : Int) := by rw [show (t : Int) - (md : Int) + (p : Int) = (F : Int) by omega]; exact IntWalk.i64_in _ (by omega)
            obtain ⟨lfv, hlf⟩ : ∃ z, lf I n t i = z := ⟨_, rfl⟩
            have HLF := Lib.hid hlf
            clear hlf hst0 hFe
            by_cases hbe : md = 0
            · have HBE := Lib.hid (show Begins (I i) t from ⟨by rw [← HSE.out]; exact hst, by rw [← HSE.out, ← HPE0.out, ← hmd]; exact hbe⟩)
              have hmz : ((md : Int) == 0) = true := by rw [beq_iff_eq]; omega
              have l0 : W0.cell? ⟨L, i, none⟩ = some (.int .i64 (lfM I n t i i)) := by rw [World.ownsRow.cellAt HT0.out.l i (by omega)]; exact lst_at hlti
              have lf0 := World.ownsRow.frozenAt HT0.out.l i
              generalize lfM I n t i i = old at l0
              clear hmd hbe
              go_upto_region 21 with fail
              have HKW := Lib.hid ((Keeps.refl (fun x => x = L) W0).setCell ⟨L, i, none⟩ (.int .i64 (q : Nat)) rfl)
              have HTN := Lib.hid (show Three w.heap.size (W0.setCell ⟨L, i, none⟩ (.int .i64 (q : Nat))) L n (lfM I n t (i + 1)) (.slice po t co) t (plz I n) (.slice pc0 i cc0) i (rC I n t) from by
                have h1 := HT0.out.setL i (q : Nat)
                exact h1.congrL (by rw [HQE.out]; exact lfM_set HBE.out))
              have HBN := Lib.hid (HB0.out.setCell (p := ⟨L, i, none⟩) hLw (.int .i64 (q : Nat)))
              replace x0 := (HKW.out.cell (p := ⟨X, 0, none⟩) hs0 hXL).trans x0
              replace x1 := (HKW.out.cell (p := ⟨X, 1, none⟩) hs0 hXL).trans x1
              replace x2 := (HKW.out.cell (p := ⟨X, 2, none⟩) hs0 hXL).trans x2
              clear HKW l0 lf0
              generalize W0.setCell ⟨L, i, none⟩ (.int .i64 (q : Nat)) = W4 at *
              obtain ⟨g0, _⟩ : W4.cell? ⟨L, i, none⟩ = some (.int .i64 (lfv : Nat)) ∧ True := ⟨by
                rw [World.ownsRow.cellAt HTN.out.l i (by omega)]
                refine (lst_at hlti).trans ?_
                unfold lfM
                rw [if_pos (by omega), HLF.out], trivial⟩
              have HRC := Lib.hid (show rC I n t i = ⟨i, (lfv : Nat), (F : Nat)⟩ by unfold rC; rw [if_neg (by rw [← HSE.out]; omega), HLF.out, HFI.out])
              have HT4 := Lib.hid (HTN.out.below ((below_drewOne (w := W4)).alloc (Nat.le_refl _) (.cells #[.int .i64 (i : Nat), .int .i64 (lfv : Nat), .int .i64 (F : Nat)] ChR)))
              have HB4 := Lib.hid (below_alloc (below_drew HBN.out) (.cells #[.int .i64 (i : Nat), .int .i64 (lfv : Nat), .int .i64 (F : Nat)] ChR))
              go_region_law (refine step_append_lies _ (by rfl) _ _ 22 (by rfl) w.heap.size ChR i3 (.agg #[.int .i64 0, .int .i64 0, .int .i64 0]) 3 24 Try.underlying22 hi3 hy0 hy1 hy2 rfl (by decide) _ i (triL (rC I n t) i) (by rfl) HT4.out.c ⟨W4.heap.size, 0, none⟩ 1 1 [.int .i64 (i : Nat), .int .i64 (lfv : Nat), .int .i64 (F : Nat)] (by rfl) rfl (World.news_of_block (heap_alloc_new _ _)) (by intro u hu; simp at hu; rcases hu with rfl | rfl | rfl <;> rfl) (by decide) (by unfold maxLen; omega) (by omega) HB4.out.size _ rfl ?_; intro pc cc w5 hown5 hgrow5 hat5 hlt5)
              all_goals
                have HT5 := Lib.hid (HT4.out.appC (h' := rC I n t) (show TrisO ChR w.heap.size w5 (.slice (some ⟨pc, 0, none⟩) (i + 1) cc) (i + 1) (rC I n t) from by
                  show w5.ownsRow _ ChR 3 _ _ (triL (rC I n t) (i + 1))
                  rw [triL_succ, HRC.out]
                  exact hown5) hgrow5 (fun b e => by
                    have e2 : pc = b := by simpa [Value.ownBlock] using e
                    subst e2
                    exact hat5.imp id (fun h => by rw [h]; exact Nat.le_refl _)))
                have HB5 := Lib.hid (HB4.out.grown hgrow5 HB4.out.size (fun b e => (World.ownsRow.lt HT4.out.c b e).1))
                clear hown5 hgrow5 hat5
                go_wp2_with fail
                go_roundw
                case rel => exact ⟨i + 1, by omega, by go_num, HT5, HB5⟩
                case measure => simp [intOf]; omega
            · have hmz : ((md : Int) == 0) = false := by rw [beq_eq_false_iff_ne]; omega
              have HTN := Lib.hid (HT0.out.congrL (lfM_stay (I := I) (n := n) (N := n) (t := t) (i := i) (fun k => hbe (by have := k.2; rw [← HSE.out, ← HPE0.out, ← hmd] at this; exact this))))
              have HBN := HB0
              clear hmd hbe
              go_upto_region 21 with fail
              obtain ⟨g0, _⟩ : W0.cell? ⟨L, i, none⟩ = some (.int .i64 (lfv : Nat)) ∧ True := ⟨by
                rw [World.ownsRow.cellAt HTN.out.l i (by omega)]
                refine (lst_at hlti).trans ?_
                unfold lfM
                rw [if_pos (by omega), HLF.out], trivial⟩
              have HRC := Lib.hid (show rC I n t i = ⟨i, (lfv : Nat), (F : Nat)⟩ by unfold rC; rw [if_neg (by rw [← HSE.out]; omega), HLF.out, HFI.out])
              have HT4 := Lib.hid (HTN.out.below ((below_drewOne (w := W0)).alloc (Nat.le_refl _) (.cells #[.int .i64 (i : Nat), .int .i64 (lfv : Nat), .int .i64 (F : Nat)] ChR)))
              have HB4 := Lib.hid (below_alloc (below_drew HBN.out) (.cells #[.int .i64 (i : Nat), .int .i64 (lfv : Nat), .int .i64 (F : Nat)] ChR))
              go_region_law (refine step_append_lies _ (by rfl) _ _ 22 (by rfl) w.heap.size ChR i3 (.agg #[.int .i64 0, .int .i64 0, .int .i64 0]) 3 24 Try.underlying22 hi3 hy0 hy1 hy2 rfl (by decide) _ i (triL (rC I n t) i) (by rfl) HT4.out.c ⟨W0.heap.size, 0, none⟩ 1 1 [.int .i64 (i : Nat), .int .i64 (lfv : Nat), .int .i64 (F : Nat)] (by rfl) rfl (World.news_of_block (heap_alloc_new _ _)) (by intro u hu; simp at hu; rcases hu with rfl | rfl | rfl <;> rfl) (by decide) (by unfold maxLen; omega) (by omega) HB4.out.size _ rfl ?_; intro pc cc w5 hown5 hgrow5 hat5 hlt5)
              all_goals
                have HT5 := Lib.hid (HT4.out.appC (h' := rC I n t) (show TrisO ChR w.heap.size w5 (.slice (some ⟨pc, 0, none⟩) (i + 1) cc) (i + 1) (rC I n t) from by
                  show w5.ownsRow _ ChR 3 _ _ (triL (rC I n t) (i + 1))
                  rw [triL_succ, HRC.out]
                  exact hown5) hgrow5 (fun b e => by
                    have e2 : pc = b := by simpa [Value.ownBlock] using e
                    subst e2
                    exact hat5.imp id (fun h => by rw [h]; exact Nat.le_refl _)))
                have HB5 := Lib.hid (HB4.out.grown hgrow5 HB4.out.size (fun b e => (World.ownsRow.lt HT4.out.c b e).1))
                clear hown5 hgrow5 hat5
                go_wp2_with fail
                go_roundw
                case rel => exact ⟨i + 1, by omega, by go_num, HT5, HB5⟩
                case measure => simp [intOf]; omega
        · have hge : decide (i < n) = false := decide_eq_false hlti
          obtain rfl : i = n := by omega
          clear hlti
          have HPI := Lib.hid (show Calls Try.prog 13 #[u10] wr (IntPost wr (plz I i t)) from by
            have h := rpick_any wr u10 i (rC I i t) (own_tris HT.out.c (by omega))
            rw [rC_pick] at h
            exact h)
          go_wp2_with fail
          refine HPI.out.mono ?_
          rintro e w4 ⟨rfl, hb4⟩
          have HT4 := Lib.hid (HT.out.below hb4)
          have HB4 := Lib.hid (bnext HB.out hb4)
          have hLl := (World.ownsRow.lt HT4.out.l L rfl).2
          have hLw := (World.ownsRow.lt HT4.out.l L rfl).1
          clear hb4 HT HB HPI
          cases hpk : pl I i t with
          | none =>
            have HPZ := Lib.hid (show plz I i t = -1 by unfold plz; rw [hpk]; rfl)
            have HT5 := Lib.hid ((HT4.out.congrL (lfM_none hpk)).below ((Below.refl w4.heap.size w4).alloc (Nat.le_refl _) (.cells #[.int .i64 (-1)] 3)))
            have HB5 := Lib.hid (below_alloc HB4.out (.cells #[.int .i64 (-1)] 3))
            rw [HPZ.out]
            clear hpk
            go_wp2_with (at_builtin; refine wpList_append_ints rfl _ _ rfl w.heap.size _ t (numL (plz I i) t) rfl HT5.out.o _ 1 [.int .i64 (-1)] rfl (src_one w4 (-1) 3) (by intro u hu; simp at hu; subst hu; rfl) (by omega) HB5.out.size ?_)
            intro pc cc w6 hown hgrow hat
            have HT6 := Lib.hid (HT5.out.appO (g' := plz I i) (show NumsO w.heap.size w6 (.slice pc (t + 1) cc) (t + 1) (plz I i) from by
              show w6.ownsRow _ 3 1 _ _ (numL (plz I i) (t + 1))
              rw [numL_succ, HPZ.out]
              exact hown) hgrow (fun b e => (hat b e).imp id (fun h => by simp at h ⊢; omega)))
            have HB6 := Lib.hid (HB5.out.grown hgrow HB5.out.size (fun b e => (World.ownsRow.lt HT5.out.o b e).1))
            clear hown hgrow hat
            go_wp2_with fail
            go_roundw
            case rel => exact ⟨t + 1, by omega, by go_num, ⟨_, _, _, HT6⟩, HB6⟩
            case measure => simp [intOf]; omega
          | some k =>
            have HPZ := Lib.hid (show plz I i t = (k : Int) by unfold plz; rw [hpk]; rfl)
            have hkn := pl_lt hpk
            have hkn' : (k : Int) < (i : Int) := by omega
            have k0 : (0 : Int) ≤ (k : Int) := by omega
            obtain ⟨lk, hlk⟩ : ∃ z, lf I i t k = z := ⟨_, rfl⟩
            have hlq : lk ≤ 1048576 := by
              rw [← hlk]
              have h1 := lf_leR (n := i) HOK.out t k
              have h2 := (HIB.out k).qp
              have h3 := (HIB.out k).p2
              omega
            have hlm : lfM I i t i k = (lk : Int) := by unfold lfM; rw [if_pos hkn, hlk]
            have l0 : w4.cell? ⟨L, k, none⟩ = some (.int .i64 (lk : Int)) := by rw [World.ownsRow.cellAt HT4.out.l k (by omega), ← hlm]; exact lst_at hkn
            have lf0 := World.ownsRow.frozenAt HT4.out.l k
            have HTS := Lib.hid (show Three w.heap.size (w4.setCell ⟨L, k, none⟩ (.int .i64 ((lk : Int) - 1))) L i (lfM I i (t + 1) 0) (.slice po t co) t (plz I i) u10 i (rC I i t) from by
              have h1 := HT4.out.setL k ((lk : Int) - 1)
              rw [← hlm] at h1 ⊢
              exact h1.congrL (lfM_some hpk))
            have HBS := Lib.hid (HB4.out.setCell (p := ⟨L, k, none⟩) hLw (.int .i64 ((lk : Int) - 1)))
            rw [HPZ.out]
            clear hpk hlk hlm HT4
            obtain ⟨W5, hW5⟩ : ∃ W5, W5 = w4.setCell ⟨L, k, none⟩ (.int .i64 ((lk : Int) - 1)) := ⟨_, rfl⟩
            rw [← hW5] at HTS HBS
            have HT5 := Lib.hid (HTS.out.below ((Below.refl W5.heap.size W5).alloc (Nat.le_refl _) (.cells #[.int .i64 (k : Nat)] 3)))
            have HB5 := Lib.hid (below_alloc HBS.out (.cells #[.int .i64 (k : Nat)] 3))
            go_upto_region 25 with fail
            rw [← hW5]
            clear l0 lf0 hW5
            go_wp2_with (at_builtin; refine wpList_append_ints rfl _ _ rfl w.heap.size _ t (numL (plz I i) t) rfl HT5.out.o _ 1 [.int .i64 (k : Nat)] rfl (src_one W5 (k : Nat) 3) (by intro u hu; simp at hu; subst hu; rfl) (by omega) HB5.out.size ?_)
            intro pc cc w6 hown hgrow hat
            have HT6 := Lib.hid (HT5.out.appO (g' := plz I i) (show NumsO w.heap.size w6 (.slice pc (t + 1) cc) (t + 1) (plz I i) from by
              show w6.ownsRow _ 3 1 _ _ (numL (plz I i) (t + 1))
              rw [numL_succ, HPZ.out]
              exact hown) hgrow (fun b e => (hat b e).imp id (fun h => by simp at h ⊢; omega)))
            have HB6 := Lib.hid (HB5.out.grown hgrow HB5.out.size (fun b e => (World.ownsRow.lt HT5.out.o b e).1))
            clear hown hgrow hat
            go_wp2_with fail
            go_roundw
            case rel => exact ⟨t + 1, by omega, by go_num, ⟨_, _, _, HT6⟩, HB6⟩
            case measure => simp [intOf]; omega
    · have hge : (N : Int) ≤ (t : Int) := by omega
      obtain rfl : t = N := by omega
      clear hlt
      go_wp2_with fail
      go_ret2
      exact ⟨_, rfl, HT.out.o, HBt.out⟩
set_option maxHeartbeats 1000000 in
set_option maxRecDepth 100000 in
theorem rplan_any (w : World) (v : Value) (n : Nat) (f : Nat → Tri) (h : Tris w v n f) (N : Int) :
    Calls Try.prog 20 #[v, .int .i64 N] w (NumsPost w (pN n f N) (plz (itI n f) n) (.int .i64 (pE n f N))) := by
  by_cases hN : 0 ≤ N ∧ N ≤ 4096
  · have HE : pE n f N = vE n f := if_pos hN
    obtain ⟨h1, h2⟩ := hN
    by_cases h0 : vE n f = 0
    · have hA := Int.toNat_of_nonneg h1
      have := rplan_ok w v n f h h0 N.toNat (by omega)
      rw [hA] at this
      have e : pN n f N = N.toNat := if_pos (HE.trans h0)
      rw [e, HE, h0]
      exact this
    · have HVA := Lib.hid (rvalid_any w v n f h)
      have e : pN n f N = 0 := if_neg (HE ▸ h0)
      rw [e, HE]
      have hez : (vE n f == 0) = false := by rw [beq_eq_false_iff_ne]; exact h0
      generalize vE n f = er at *
      clear h h0 e HE
      go_enter Try.func20, Try.ntmps20
      go_wp2_with fail
      refine HVA.out.mono ?_
      rintro e w1 ⟨rfl, hb1⟩
      have HB1 := Lib.hid hb1
      clear hb1
      go_wp2_with fail
      go_ret2
      exact ⟨_, rfl, nil_nums _ _ _, HB1.out⟩
  · have HE : pE n f N = 1 := if_neg hN
    have e : pN n f N = 0 := if_neg (by rw [HE]; decide)
    rw [e, HE]
    clear h e HE
    by_cases h1 : N < 0
    · clear hN
      go_enter Try.func20, Try.ntmps20
      go_wp2_with fail
      go_ret2
      exact ⟨_, rfl, nil_nums _ _ _, Below.refl _ _⟩
    · have h2 : 4096 < N := by omega
      clear hN
      go_enter Try.func20, Try.ntmps20
      go_wp2_with fail
      go_ret2
      exact ⟨_, rfl, nil_nums _ _ _, Below.refl _ _⟩
end Go.Proofs.Ytfahpjilgdlhiaa
