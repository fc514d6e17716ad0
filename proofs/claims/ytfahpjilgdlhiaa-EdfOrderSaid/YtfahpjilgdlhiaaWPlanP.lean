/- The program's Plan: tick by tick the plan by first ends; no condition but those that each row names. -/
import Derived.Test.YtfahpjilgdlhiaaWFill
import Derived.Test.YtfahpjilgdlhiaaWMissP
namespace Go.Proofs.Ytfahpjilgdlhiaa
open Go.RowKit Edf

/-- A child less a tick. -/
def decC (cs : Nat → Tri) (o : Option Nat) (i : Nat) : Tri := if o = some i then ⟨(cs i).a, (cs i).b - 1, (cs i).c⟩ else cs i
/-- The program's children ahead of each tick. -/
def csS (I : Nat → It) (n : Nat) : Nat → Nat → Tri
  | 0 => fun _ => ⟨0, 0, 0⟩
  | t + 1 => decC (filC I t (csS I n t)) (pick (filC I t (csS I n t)) n)
theorem fin_next {x : It} (hp : 1 ≤ x.p) {t : Nat} (hs : x.s ≤ t) (hb : ¬ Begins x (t + 1)) : fin x (t + 1) = fin x t := by
  rcases period hp t with h | ⟨k, r, hr, rfl⟩
  · omega
  · by_cases h : r + 1 < x.p
    · rw [fin_eq k r hr, show x.s + k * x.p + r + 1 = x.s + k * x.p + (r + 1) by omega, fin_eq k (r + 1) h]
    · refine absurd ⟨by omega, ?_⟩ hb
      rw [show x.s + k * x.p + r + 1 - x.s = (k + 1) * x.p by rw [Nat.add_mul]; omega]
      exact Nat.mul_mod_left _ _
theorem fin_beg {x : It} {t : Nat} (hb : Begins x t) : fin x t = t + x.p := by unfold fin; rw [hb.2]; omega
theorem filC_is {I : Nat → It} {n : Nat} (hI : ∀ i, (I i).Ok) : ∀ t i, filC I t (csS I n t) i = if (I i).s ≤ t then ⟨i, (lf I n t i : Nat), (fin (I i) t : Nat)⟩ else ⟨0, 0, 0⟩
  | 0, i => by
    unfold filC
    by_cases hb : Begins (I i) 0
    · rw [if_pos hb, if_pos hb.1, fin_beg hb]
      have e : lf I n 0 i = (I i).q := if_pos hb
      rw [e]
    · rw [if_neg hb, if_neg fun h => hb ⟨h, by rw [show 0 - (I i).s = 0 by omega]; exact Nat.zero_mod _⟩]
      rfl
  | t + 1, i => by
    have hp : 1 ≤ (I i).p := by have := hI i; unfold It.Ok at this; omega
    have ih := filC_is (n := n) hI t
    have hpick : pick (filC I t (csS I n t)) n = pl I n t := pick_congr n fun j hj => by
      rw [ih j]
      by_cases hs : (I j).s ≤ t
      · rw [if_pos hs]; exact .inl rfl
      · rw [if_neg hs]
        refine .inr ⟨by decide, fun h => ?_⟩
        have h2 : (0 : Int) < ((lf I n t j : Nat) : Int) := h
        have := (lf_early (I := I) (n := n) (i := j) t (by omega)).2
        omega
    show (if Begins (I i) (t + 1) then _ else decC (filC I t (csS I n t)) (pick (filC I t (csS I n t)) n) i) = _
    rw [hpick]
    by_cases hb : Begins (I i) (t + 1)
    · rw [if_pos hb, if_pos hb.1, fin_beg hb]
      have e : lf I n (t + 1) i = (I i).q := if_pos hb
      rw [e]
    · rw [if_neg hb]
      have e : lf I n (t + 1) i = dec (lf I n t) (pl I n t) i := if_neg hb
      by_cases hs : (I i).s ≤ t
      · rw [if_pos (by omega), e, fin_next hp hs hb]
        unfold decC dec
        rw [ih i, if_pos hs]
        by_cases hpl : pl I n t = some i
        · have := pl_left hpl
          rw [if_pos hpl, if_pos hpl]
          simp only [Tri.mk.injEq, true_and, and_true]
          omega
        · rw [if_neg hpl, if_neg hpl]
      · have hs2 : ¬ (I i).s ≤ t + 1 := fun h => hb ⟨h, by rw [show t + 1 - (I i).s = 0 by omega]; exact Nat.zero_mod _⟩
        rw [if_neg hs2]
        unfold decC
        rw [ih i, if_neg hs]
        rw [if_neg]
        intro hpl
        have h1 := pl_left hpl
        have h2 := (lf_early (I := I) (n := n) (i := i) t (by omega)).2
        omega
theorem pick_is {I : Nat → It} {n : Nat} (hI : ∀ i, (I i).Ok) (t : Nat) : pick (filC I t (csS I n t)) n = pl I n t := pick_congr n fun j hj => by
  rw [filC_is hI t j]
  by_cases hs : (I j).s ≤ t
  · rw [if_pos hs]; exact .inl rfl
  · rw [if_neg hs]
    refine .inr ⟨by decide, fun h => ?_⟩
    have h2 : (0 : Int) < ((lf I n t j : Nat) : Int) := h
    have := (lf_early (I := I) (n := n) (i := j) t (by omega)).2
    omega
theorem csS_b {I : Nat → It} {n : Nat} (hI : ∀ i, (I i).Ok) (hB : ∀ i, (I i).q ≤ 1048576) (t i : Nat) : 0 ≤ (filC I t (csS I n t) i).b ∧ (filC I t (csS I n t) i).b ≤ 1048576 := by
  rw [filC_is hI t i]
  by_cases hs : (I i).s ≤ t
  · rw [if_pos hs]
    have hp : 1 ≤ (I i).p := by have := hI i; unfold It.Ok at this; omega
    rcases period hp t with h | ⟨k, r, hr, e⟩
    · omega
    · have := lf_cnt (I := I) (n := n) (i := i) (hI i) k r hr
      rw [← e] at this
      have := hB i
      simp only
      omega
  · rw [if_neg hs]; simp
theorem Try.infCh : (Try.prog.info? ChT).map (fun i => (i.zero, i.size, i.bytes)) = some (some (.agg #[.int .i64 0, .int .i64 0, .int .i64 0]), 3, 24) := by kernel_rfl
theorem made_tris (n : Nat) : (madeCells (Value.agg #[.int .i64 0, .int .i64 0, .int .i64 0]).cells (n * 3)).toList = triL (fun _ => ⟨0, 0, 0⟩) n := by
  apply List.ext_getElem?
  intro j
  by_cases hj : j < n * 3
  · unfold triL
    rw [lst_at hj]
    have h3 : j % 3 = 0 ∨ j % 3 = 1 ∨ j % 3 = 2 := by omega
    simp only [madeCells, Value.cells]
    rcases h3 with h | h | h <;> simp [hj, h, prt]
  · rw [List.getElem?_eq_none (by simp [size_madeCells]; omega), List.getElem?_eq_none (by rw [triL_len]; omega)]
def pE (n : Nat) (f : Nat → Tri) (N : Int) : Int := if 0 ≤ N ∧ N ≤ 4096 then vE n f else 1
theorem tris_keep {B n G : Nat} {w w' : World} {cs : Nat → Tri} (h : TrisO ChT B w (.slice (some ⟨G, 0, none⟩) n n) n cs) {S : Nat → Prop} (hk : Keeps S w w') (hn : ¬ S G) : TrisO ChT B w' (.slice (some ⟨G, 0, none⟩) n n) n cs :=
  own_keep h hk fun b e => by cases e; exact hn
theorem nums_keep {B n G : Nat} {w w' : World} {g : Nat → Int} (h : NumsO B w (.slice (some ⟨G, 0, none⟩) n n) n g) {S : Nat → Prop} (hk : Keeps S w w') (hn : ¬ S G) : NumsO B w' (.slice (some ⟨G, 0, none⟩) n n) n g :=
  own_keep h hk fun b e => by cases e; exact hn
theorem dec_none {I : Nat → It} {n t : Nat} (h : pick (filC I t (csS I n t)) n = none) : csS I n (t + 1) = filC I t (csS I n t) := by
  show decC _ (pick _ n) = _
  rw [h]
  exact funext fun i => if_neg (by simp)
theorem dec_some {I : Nat → It} {n t k : Nat} (h : pick (filC I t (csS I n t)) n = some k) : csS I n (t + 1) = upd (filC I t (csS I n t)) k ⟨(filC I t (csS I n t) k).a, (filC I t (csS I n t) k).b - 1, (filC I t (csS I n t) k).c⟩ := by
  show decC _ (pick _ n) = _
  rw [h]
  refine funext fun i => ?_
  unfold decC upd
  by_cases e : i = k
  · subst e; rw [if_pos rfl, if_pos rfl]
  · rw [if_neg (fun h => e (Option.some.inj h).symm), if_neg e]

set_option maxHeartbeats 4000000 in
set_option maxRecDepth 100000 in
theorem plan_ok (w : World) (v : Value) (n : Nat) (f : Nat → Tri) (h : Tris w v n f) (h0 : vE n f = 0) (N : Nat) (hN : N ≤ 4096) :
    Calls Try.prog 18 #[v, .int .i64 (N : Nat)] w (NumsPost w N (plz (itI n f) n) .nilIface) := by
  have HVA := Lib.hid (fun W (hb : Below w.heap.size w W) => valid_any W v n f (h.below hb))
  obtain ⟨h64, hB, hI⟩ := vE_ok h0
  have h' : Tris w v n (fun i => ofIt (itI n f i)) := h.congr hI
  rw [h0] at HVA
  generalize itI n f = I at *
  clear h0 hI h
  have HV := Lib.hid (fun W (hb : Below w.heap.size w W) => h'.below hb)
  have HPK := Lib.hid (pick_is (I := I) (n := n) (fun i => (hB i).ok))
  have HCB := Lib.hid (csS_b (I := I) (n := n) (fun i => (hB i).ok) (fun i => by have := (hB i).qp; have := (hB i).p2; omega))
  have HB := Lib.hid hB
  obtain ⟨p1, cap1, rfl, hm, _⟩ := h'
  obtain ⟨i0, hi, hz0, hz1, hz2⟩ := iz_int
  obtain ⟨j0, hj, hy0, hy1, hy2⟩ := info_parts Try.infCh
  clear hB
  go_enter Try.func18, Try.ntmps18
  go_wp2_with fail
  refine (HVA.out _ (Below.refl _ _)).mono ?_
  rintro e w1 ⟨rfl, hb1⟩
  rw [errV_0]
  have HB1 := Lib.hid hb1
  clear hb1
  go_upto_region 7 with (at_make; refine wpList_make_full _ rfl _ _ 23 rfl w.heap.size ChT j0 (.agg #[.int .i64 0, .int .i64 0, .int .i64 0]) 3 Try.underlying23 hj hy0 hy1 .i64 .i64 _ _ n rfl rfl (by first | rfl | omega) (by first | rfl | omega) (by rw [hy2]; omega) (by unfold maxLen; omega) HB1.out.size ?_; intro w2 hown2 hgrow2)
  have hw2 : w1.heap.size < w2.heap.size := (World.ownsRow.lt hown2 _ rfl).2
  rw [made_tris] at hown2
  have HC2 := Lib.hid (show TrisO ChT w.heap.size w2 (.slice (some ⟨w1.heap.size, 0, none⟩) n n) n (csS I n 0) from hown2)
  have HB2 := Lib.hid (HB1.out.grown hgrow2 HB1.out.size (fun k e => by cases e))
  clear hown2 hgrow2
  generalize w1.heap.size = G at *
  go_wp2_with (at_make; refine wpList_make_full _ rfl _ _ 30 rfl w.heap.size 3 i0 (.int .i64 0) 1 Try.underlying30 hi hz0 hz1 .i64 .i64 _ _ N rfl rfl (by first | rfl | omega) (by first | rfl | omega) (by rw [hz2]; omega) (by unfold maxLen; omega) HB2.out.size ?_; intro w3 hown3 hgrow3)
  rw [made_nums, half_0 (plz I n)] at hown3
  have HP3 := Lib.hid (show NumsO w.heap.size w3 (.slice (some ⟨w2.heap.size, 0, none⟩) N N) N (half (plz I n) 0) from hown3)
  have HB3 := Lib.hid (HB2.out.grown hgrow3 HB2.out.size (fun k e => by cases e))
  have HC3 := Lib.hid (own_under HC2.out (below_of_grown hgrow3))
  clear hown3 hgrow3
  have hne : ¬ w2.heap.size = G := by omega
  generalize w2.heap.size = R at *
  clear hw2 HB1 HB2 HC2
  go_loopw [30] (fun iv wr => ∃ (t : Nat), t ≤ N ∧ iv = .int .i64 t ∧ Hid (TrisO ChT w.heap.size wr (.slice (some ⟨G, 0, none⟩) n n) n (csS I n t)) ∧ Hid (NumsO w.heap.size wr (.slice (some ⟨R, 0, none⟩) N N) N (half (plz I n) t)) ∧ Hid (Below w.heap.size w wr)) (fun iv _ => N - (intOf iv).toNat)
  case atStart => exact ⟨0, Nat.zero_le _, rfl, HC3, HP3, HB3⟩
  case round =>
    clear HC3 HP3 HB3
    obtain ⟨t, htN, rfl, HC, HP, HBw⟩ := hrel
    by_cases hlt : t < N
    · have hlt' : (t : Int) < (N : Int) := by omega
      have t0 : (0 : Int) ≤ (t : Int) := by omega
      have hGl := (World.ownsRow.lt HC.out G rfl).1
      have hRl := (World.ownsRow.lt HP.out R rfl).1
      have HFI := Lib.hid (fill_any wr I HB.out n h64 (.slice p1 n cap1) G w.heap.size (csS I n t) t (by omega) (fun W hk => HV.out W (below_keeps HBw.out hk (fun b e => by omega))) HC.out)
      go_wp2_with fail
      refine HFI.out.mono ?_
      rintro e w4 ⟨rfl, hc4, hk4⟩
      have HC4 := Lib.hid hc4
      have HP4 := Lib.hid (nums_keep HP.out hk4 hne)
      have HB4 := Lib.hid (below_keeps HBw.out hk4 (fun b e => by omega))
      clear hc4 hk4 HFI
      go_wp2_with fail
      refine (pick_any _ _ n _ (own_tris HC4.out (by omega))).mono ?_
      rintro e w5 ⟨rfl, hb5⟩
      have HC5 := Lib.hid (own_under HC4.out hb5)
      have HP5 := Lib.hid (own_under HP4.out hb5)
      have HB5 := Lib.hid (bnext HB4.out hb5)
      clear hb5
      have HPZ := Lib.hid (show plz I n t = placeZ (pick (filC I t (csS I n t)) n) by rw [HPK.out t]; rfl)
      have r0 : w5.cell? ⟨R, t, none⟩ = some (.int .i64 (half (plz I n) t t)) := by rw [World.ownsRow.cellAt HP5.out t (by omega)]; exact lst_at hlt
      have rf := World.ownsRow.frozenAt HP5.out t
      cases hpk : pick (filC I t (csS I n t)) n with
      | none =>
        have HCS := Lib.hid (dec_none hpk)
        rw [hpk] at HPZ
        rw [show placeZ none = (-1 : Int) from rfl] at HPZ ⊢
        have HPN := Lib.hid (show NumsO w.heap.size (w5.setCell ⟨R, t, none⟩ (.int .i64 (-1))) (.slice (some ⟨R, 0, none⟩) N N) N (half (plz I n) (t + 1)) from by
          have h1 := (World.ownsRow.stored HP5.out t (.int .i64 (plz I n t))).1
          rw [numL_set, half_upd, HPZ.out] at h1
          exact h1)
        have HCN := Lib.hid (show TrisO ChT w.heap.size (w5.setCell ⟨R, t, none⟩ (.int .i64 (-1))) (.slice (some ⟨G, 0, none⟩) n n) n (csS I n (t + 1)) from by
          rw [HCS.out]
          exact tris_keep HC5.out (S := fun x => x = R) ((Keeps.refl _ _).setCell ⟨R, t, none⟩ _ rfl) (fun e => hne e.symm))
        have HBN := Lib.hid (HB5.out.setCell (p := ⟨R, t, none⟩) hRl (.int .i64 (-1)))
        generalize half (plz I n) t t = old at *
        clear hpk
        go_wp2_with fail
        go_roundw
        case rel => exact ⟨t + 1, by omega, by go_num, HCN, HPN, HBN⟩
        case measure => simp [intOf]; omega
      | some k =>
        have hkn := pick_lt hpk
        have HCS := Lib.hid (dec_some hpk)
        rw [hpk] at HPZ
        rw [show placeZ (some k) = (k : Int) from rfl] at HPZ ⊢
        obtain ⟨cb0, cb1⟩ := HCB.out t k
        have x1 := (World.ownsRow.cellAt HC5.out (k * 3 + 1) (by omega)).trans (triL_at (filC I t (csS I n t)) hkn).2.1
        have xf := World.ownsRow.frozenAt HC5.out (k * 3 + 1)
        have hkz : ((k : Int) == -1) = false := by rw [beq_eq_false_iff_ne]; omega
        have hkz2 : ((k : Int) != -1) = true := by rw [bne_iff_ne]; omega
        have hk0 : (0 : Int) ≤ (k : Int) := by omega
        have hkn' : (k : Int) < (n : Int) := by omega
        have HPN := Lib.hid (show NumsO w.heap.size ((w5.setCell ⟨G, k * 3 + 1, none⟩ (.int .i64 ((filC I t (csS I n t) k).b - 1))).setCell ⟨R, t, none⟩ (.int .i64 (k : Nat))) (.slice (some ⟨R, 0, none⟩) N N) N (half (plz I n) (t + 1)) from by
          have h0 := nums_keep HP5.out (S := fun x => x = G) ((Keeps.refl _ w5).setCell ⟨G, k * 3 + 1, none⟩ (.int .i64 ((filC I t (csS I n t) k).b - 1)) rfl) hne
          have h1 := (World.ownsRow.stored h0 t (.int .i64 (plz I n t))).1
          rw [numL_set, half_upd, HPZ.out] at h1
          exact h1)
        have HCN := Lib.hid (show TrisO ChT w.heap.size ((w5.setCell ⟨G, k * 3 + 1, none⟩ (.int .i64 ((filC I t (csS I n t) k).b - 1))).setCell ⟨R, t, none⟩ (.int .i64 (k : Nat))) (.slice (some ⟨G, 0, none⟩) n n) n (csS I n (t + 1)) from by
          rw [HCS.out]
          have h1 := (World.ownsRow.stored HC5.out (k * 3 + 1) (.int .i64 ((filC I t (csS I n t) k).b - 1))).1
          rw [triL_setb] at h1
          exact tris_keep h1 (S := fun x => x = R) ((Keeps.refl _ _).setCell ⟨R, t, none⟩ _ rfl) (fun e => hne e.symm))
        have HBN := Lib.hid ((HB5.out.setCell (p := ⟨G, k * 3 + 1, none⟩) hGl (.int .i64 ((filC I t (csS I n t) k).b - 1))).setCell (p := ⟨R, t, none⟩) hRl (.int .i64 (k : Nat)))
        generalize half (plz I n) t t = old at *
        generalize (filC I t (csS I n t) k).b = lft at *
        clear hpk
        go_wp2_with fail
        go_roundw
        case rel => exact ⟨t + 1, by omega, by go_num, HCN, HPN, HBN⟩
        case measure => simp [intOf]; omega
    · have hge : decide (t < N) = false := decide_eq_false hlt
      obtain rfl : t = N := by omega
      clear hlt
      go_wp2_with fail
      go_ret2
      exact ⟨_, rfl, by have := HP.out; rw [NumsO, half_end] at this; exact this, HBw.out⟩
def pN (n : Nat) (f : Nat → Tri) (N : Int) : Nat := if pE n f N = 0 then N.toNat else 0
set_option maxHeartbeats 1000000 in
set_option maxRecDepth 100000 in
theorem plan_any (w : World) (v : Value) (n : Nat) (f : Nat → Tri) (h : Tris w v n f) (N : Int) :
    Calls Try.prog 18 #[v, .int .i64 N] w (NumsPost w (pN n f N) (plz (itI n f) n) (errV (pE n f N))) := by
  by_cases hN : 0 ≤ N ∧ N ≤ 4096
  · have HE : pE n f N = vE n f := if_pos hN
    obtain ⟨h1, h2⟩ := hN
    by_cases h0 : vE n f = 0
    · have hA := Int.toNat_of_nonneg h1
      have := plan_ok w v n f h h0 N.toNat (by omega)
      rw [hA] at this
      have e : pN n f N = N.toNat := if_pos (HE.trans h0)
      rw [e, HE, h0]
      exact this
    · have HVA := Lib.hid (valid_any w v n f h)
      have e : pN n f N = 0 := if_neg (HE ▸ h0)
      rw [e, HE]
      have HER := Lib.hid (errV_ne h0)
      rw [HER.out]
      generalize vE n f = er at *
      clear h h0 e HE
      go_enter Try.func18, Try.ntmps18
      go_wp2_with fail
      refine HVA.out.mono ?_
      rintro e w1 ⟨rfl, hb1⟩
      rw [HER.out]
      have HB1 := Lib.hid hb1
      clear hb1
      go_wp2_with fail
      go_ret2
      exact ⟨_, rfl, nil_nums _ _ _, HB1.out⟩
  · have HE : pE n f N = 1 := if_neg hN
    have e : pN n f N = 0 := if_neg (by rw [HE]; decide)
    rw [e, HE]
    clear h e HE
    by_cases h1 : N < 0
    · clear hN
      go_enter Try.func18, Try.ntmps18
      go_wp2_with fail
      go_ret2
      exact ⟨_, rfl, nil_nums _ _ _, Below.refl _ _⟩
    · have h2 : 4096 < N := by omega
      clear hN
      go_enter Try.func18, Try.ntmps18
      go_wp2_with fail
      go_ret2
      exact ⟨_, rfl, nil_nums _ _ _, Below.refl _ _⟩
end Go.Proofs.Ytfahpjilgdlhiaa
