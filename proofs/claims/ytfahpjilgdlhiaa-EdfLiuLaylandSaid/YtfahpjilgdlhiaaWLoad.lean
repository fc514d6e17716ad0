/- Load, Sum, Lag where the laws call them; no condition but those that each row names. -/
import Derived.Test.YtfahpjilgdlhiaaWLawA
namespace Go.Proofs.Ytfahpjilgdlhiaa
open Go.RowKit Edf

/-- The sum of the first n numbers. -/
def sumZ (g : Nat → Int) : Nat → Int
  | 0 => 0
  | n + 1 => sumZ g n + g n
theorem sumZ_bd {g : Nat → Int} {n : Nat} (h : ∀ j, j < n → 0 ≤ g j ∧ g j ≤ 1048576) : ∀ k, k ≤ n → 0 ≤ sumZ g k ∧ sumZ g k ≤ k * 1048576
  | 0, _ => by simp [sumZ]
  | k + 1, hk => by
    have h1 := sumZ_bd h k (by omega)
    have h2 := h k (by omega)
    simp only [sumZ]
    omega
theorem belowz_any (w : World) (v : Value) (n : Nat) (g : Nat → Int) (h : Nums w v n g) (hg : ∀ j, j < n → 0 ≤ g j ∧ g j ≤ 1048576) : Calls Try.prog 53 #[v] w fun e w' => e = .returned (.bool false) ∧ w = w' := by
  have HV := Lib.hid h
  have HG := Lib.hid hg
  obtain ⟨p, cap, rfl, hm, _⟩ := h
  clear hg
  go_enter Try.func53, Try.ntmps53
  go_wp2_with fail
  go_loop [7] (fun iv => ∃ (k : Nat), k ≤ n ∧ iv = .int .i64 k) (fun iv => n - (intOf iv).toNat)
  case atStart => exact ⟨0, Nat.zero_le _, rfl⟩
  case round =>
    obtain ⟨k, hk, rfl⟩ := hrel
    by_cases hlt : k < n
    · have hlt' : (k : Int) < (n : Int) := by omega
      have k0 : (0 : Int) ≤ (k : Int) := by omega
      obtain ⟨_, _, hsl, _, hcs⟩ := HV.out
      injection hsl with hs1 hs2 hs3
      subst hs1 hs3
      obtain ⟨b, off, rfl, c0⟩ := hcs k hlt
      obtain ⟨g1, g2⟩ := HG.out k hlt
      clear hcs hs2
      generalize g k = z at *
      go_wp2_with fail
      go_round
      case rel => exact ⟨k + 1, by omega, by go_num⟩
      case measure => simp [intOf]; omega
    · have hge : decide (k < n) = false := decide_eq_false hlt
      clear hlt
      go_wp2_with fail
      go_ret
      exact ⟨rfl, rfl⟩
theorem sum_any (w : World) (v : Value) (n : Nat) (g : Nat → Int) (h : Nums w v n g) (hn : n ≤ 64) (hg : ∀ j, j < n → 0 ≤ g j ∧ g j ≤ 1048576) : Calls Try.prog 45 #[v] w fun e w' => e = .returned (.tuple #[.int .i64 (sumZ g n), .nilIface]) ∧ w = w' := by
  have HV := Lib.hid h
  have HG := Lib.hid hg
  have HBZ := Lib.hid (belowz_any w v n g h hg)
  have HSB := Lib.hid (sumZ_bd hg)
  obtain ⟨p, cap, rfl, hm, _⟩ := h
  clear hg
  go_enter Try.func45, Try.ntmps45
  go_wp2_with fail
  refine HBZ.out.mono ?_
  rintro e w1 ⟨rfl, rfl⟩
  go_wp2_with fail
  go_loop [4, 12] (fun sv iv => ∃ (k : Nat), k ≤ n ∧ iv = .int .i64 k ∧ sv = .int .i64 (sumZ g k)) (fun _ iv => n - (intOf iv).toNat)
  case atStart => exact ⟨0, Nat.zero_le _, rfl, rfl⟩
  case round =>
    obtain ⟨k, hk, rfl, rfl⟩ := hrel
    by_cases hlt : k < n
    · have hlt' : (k : Int) < (n : Int) := by omega
      have k0 : (0 : Int) ≤ (k : Int) := by omega
      obtain ⟨_, _, hsl, _, hcs⟩ := HV.out
      injection hsl with hs1 hs2 hs3
      subst hs1 hs3
      obtain ⟨b, off, rfl, c0⟩ := hcs k hlt
      obtain ⟨g1, g2⟩ := HG.out k hlt
      obtain ⟨s1, s2⟩ := HSB.out k hk
      have HS := Lib.hid (show sumZ g (k + 1) = sumZ g k + g k from rfl)
      clear hcs hs2
      generalize g k = z at *
      generalize sumZ g k = S at *
      go_wp2_with fail
      go_round
      case rel => exact ⟨k + 1, by omega, by go_num, by rw [HS.out]⟩
      case measure => simp [intOf]; omega
    · have hge : decide (k < n) = false := decide_eq_false hlt
      obtain rfl : k = n := by omega
      clear hlt
      go_wp2_with fail
      go_ret2
      exact ⟨rfl, rfl⟩
def shZ (I : Nat → It) (i : Nat) : Int := shareOf (I i).q (I i).p
theorem shZ_bd {x : It} (hB : ItB x) : 0 ≤ shareOf x.q x.p ∧ shareOf x.q x.p ≤ 1048576 ∧ ((x.q : Int) * 1048576 ≤ shareOf x.q x.p * x.p) := by
  have h1 := hB.q1
  have h2 := hB.qp
  have h3 := hB.p2
  unfold shareOf
  have hd := Int.mul_ediv_add_emod ((x.q : Int) * 1048576 + x.p - 1) x.p
  have hm1 := Int.emod_nonneg ((x.q : Int) * 1048576 + x.p - 1) (show (x.p : Int) ≠ 0 by omega)
  have hm2 := Int.emod_lt_of_pos ((x.q : Int) * 1048576 + x.p - 1) (show (0 : Int) < x.p by omega)
  refine ⟨Int.ediv_nonneg (by omega) (by omega), ?_, ?_⟩
  · have : ((x.q : Int) * 1048576 + x.p - 1) / x.p < 1048577 := Int.ediv_lt_of_lt_mul (by omega) (by omega)
    omega
  · rw [Int.mul_comm (((x.q : Int) * 1048576 + x.p - 1) / x.p)]
    omega
def DPostL (w : World) (d : Int) (c : Value) (e : Ending) (w' : World) : Prop := e = .returned (.tuple #[.int .i64 d, c]) ∧ Below w.heap.size w w'
def lV (n : Nat) (f : Nat → Tri) : Int := if vE n f = 0 then sumZ (shZ (itI n f)) n else 0

set_option maxHeartbeats 4000000 in
set_option maxRecDepth 100000 in
theorem load_ok (w : World) (v : Value) (n : Nat) (f : Nat → Tri) (h : Tris w v n f) (h0 : vE n f = 0) : Calls Try.prog 30 #[v] w (DPostL w (sumZ (shZ (itI n f)) n) .nilIface) := by
  have HVA := Lib.hid (fun W (hb : Below w.heap.size w W) => valid_any W v n f (h.below hb))
  obtain ⟨h64, hB, hI⟩ := vE_ok h0
  have h' : Tris w v n (fun i => ofIt (itI n f i)) := h.congr hI
  rw [h0] at HVA
  generalize itI n f = I at *
  clear h0 hI h
  have HV := Lib.hid (fun W (hb : Below w.heap.size w W) => h'.below hb)
  have HIB := Lib.hid hB
  have HSH := Lib.hid (show ∀ i w, Calls Try.prog 44 #[.agg #[.int .i64 (I i).q, .int .i64 (I i).p]] w _ from fun i w => share_ok (I i).q (I i).p w ⟨by have := (hB i).q1; omega, by have := (hB i).qp; omega, by have := (hB i).p2; omega⟩)
  have HRE := Lib.hid (fun q p s w => reserve_any q p s w)
  have HSU := Lib.hid (fun W u hu => sum_any W u n (shZ I) hu h64 (fun j _ => ⟨(shZ_bd (hB j)).1, (shZ_bd (hB j)).2.1⟩))
  obtain ⟨p1, cap1, rfl, hm, _⟩ := h'
  obtain ⟨i0, hi, hz0, hz1, hz2⟩ := iz_int
  clear hB
  go_enter Try.func30, Try.ntmps30
  go_wp2_with fail
  refine (HVA.out _ (Below.refl _ _)).mono ?_
  rintro e w1 ⟨rfl, hb1⟩
  rw [errV_0]
  have HB1 := Lib.hid hb1
  clear hb1
  go_wp2_with (at_make; refine wpList_make_full _ rfl _ _ 30 rfl w.heap.size 3 i0 (.int .i64 0) 1 Try.underlying30 hi hz0 hz1 .i64 .i64 _ _ n rfl rfl (by first | rfl | omega) (by first | rfl | omega) (by rw [hz2]; omega) (by unfold maxLen; omega) HB1.out.size ?_; intro w2 hown2 hgrow2)
  rw [made_nums, half_0 (shZ I)] at hown2
  have HO2 := Lib.hid (show NumsO w.heap.size w2 (.slice (some ⟨w1.heap.size, 0, none⟩) n n) n (half (shZ I) 0) from hown2)
  have HB2 := Lib.hid (HB1.out.grown hgrow2 HB1.out.size (fun k e => by cases e))
  clear hown2 hgrow2
  generalize w1.heap.size = G at *
  go_loopw [18] (fun iv wr => ∃ (k : Nat), k ≤ n ∧ iv = .int .i64 k ∧ Hid (NumsO w.heap.size wr (.slice (some ⟨G, 0, none⟩) n n) n (half (shZ I) k)) ∧ Hid (Below w.heap.size w wr)) (fun iv _ => n - (intOf iv).toNat)
  case atStart => exact ⟨0, Nat.zero_le _, rfl, HO2, HB2⟩
  case round =>
    clear HO2 HB2
    obtain ⟨k2, hk2, rfl, HO, HB⟩ := hrel
    by_cases hlt : k2 < n
    · have hlt' : (k2 : Int) < (n : Int) := by omega
      have k0 : (0 : Int) ≤ (k2 : Int) := by omega
      obtain ⟨bb, off, _, hsl, c0, c1, c2⟩ := its_at (HV.out wr HB.out) k2 hlt
      injection hsl with hs1 hs2' hs3
      subst hs1 hs3
      clear hs2'
      have HSK := Lib.hid (HSH.out k2)
      have HSV := Lib.hid (show shZ I k2 = shareOf (I k2).q (I k2).p from rfl)
      generalize I k2 = x at *
      obtain ⟨q, p, s⟩ := x
      simp only at *
      generalize shareOf (q : Nat) (p : Nat) = sh at *
      have HB3 := Lib.hid (fun o => below_alloc (Below.refl wr.heap.size wr) o)
      go_wp2_with fail
      refine (HRE.out _ _ _ _).mono ?_
      rintro e w3 ⟨rfl, hb3⟩
      have HB4 := Lib.hid (bnext (HB3.out _) hb3)
      clear hb3
      go_wp2_with fail
      refine (HSK.out _).mono ?_
      rintro e w4 ⟨rfl, hb4⟩
      have HB5 := Lib.hid (bnext HB4.out hb4)
      clear hb4
      have HO4 := Lib.hid (own_under HO.out HB5.out)
      have HB6 := Lib.hid (bnext HB.out HB5.out)
      have hG : G < w4.heap.size := (World.ownsRow.lt HO4.out G rfl).2
      have g0 : w4.cell? ⟨G, k2, none⟩ = some (.int .i64 (half (shZ I) k2 k2)) := by rw [World.ownsRow.cellAt HO4.out k2 (by omega)]; exact lst_at hlt
      have gf : w4.frozen? ⟨G, k2, none⟩ = false := World.ownsRow.frozenAt HO4.out k2
      have HGB := Lib.hid (show w.heap.size ≤ G from (World.ownsRow.lt HO4.out G rfl).1)
      clear c0 c1 c2
      have HO6 := Lib.hid (show NumsO w.heap.size (w4.setCell ⟨G, k2, none⟩ (.int .i64 (shZ I k2))) (.slice (some ⟨G, 0, none⟩) n n) n (half (shZ I) (k2 + 1)) from by
        have := (World.ownsRow.stored HO4.out k2 (.int .i64 (shZ I k2))).1
        rw [numL_set, half_upd] at this
        exact this)
      rw [HSV.out] at HO6
      generalize half (shZ I) k2 k2 = old at *
      go_wp2_with fail
      go_roundw
      case rel => exact ⟨k2 + 1, by omega, by go_num, HO6, Lib.hid (HB6.out.setCell (p := ⟨G, k2, none⟩) HGB.out _)⟩
      case measure => simp [intOf]; omega
    · have hge2 : decide (k2 < n) = false := decide_eq_false hlt
      obtain rfl : k2 = n := by omega
      clear hlt
      have HN := Lib.hid (own_nums (show NumsO w.heap.size wr (.slice (some ⟨G, 0, none⟩) k2 k2) k2 (shZ I) from by have := HO.out; rw [NumsO, half_end] at this; exact this) (by omega))
      go_wp2_with fail
      refine (HSU.out _ _ HN.out).mono ?_
      rintro e w5 ⟨rfl, rfl⟩
      go_wp2_with fail
      go_ret2
      exact ⟨rfl, HB.out⟩
set_option maxHeartbeats 1000000 in
set_option maxRecDepth 100000 in
theorem load_bad (w : World) (v : Value) (n : Nat) (f : Nat → Tri) (h : Tris w v n f) (h0 : vE n f ≠ 0) : Calls Try.prog 30 #[v] w (DPostL w 0 (errV (vE n f))) := by
  have HVA := Lib.hid (valid_any w v n f h)
  have HER := Lib.hid (errV_ne h0)
  rw [HER.out]
  generalize vE n f = er at *
  clear h h0
  go_enter Try.func30, Try.ntmps30
  go_wp2_with fail
  refine HVA.out.mono ?_
  rintro e w1 ⟨rfl, hb1⟩
  rw [HER.out]
  have HB1 := Lib.hid hb1
  clear hb1
  go_wp2_with fail
  go_ret2
  exact ⟨rfl, HB1.out⟩
theorem vE_one {x : It} (hB : ItB x) : vE 1 (fun _ => ofIt x) = 0 := by
  unfold vE
  rw [if_neg (by omega)]
  have h1 := hB.q1
  have h2 := hB.qp
  have h3 := hB.p2
  have h4 := hB.s2
  simp only [firstE]
  rw [if_pos trivial]
  exact itE_0 (t := ofIt x) ⟨by show (1 : Int) ≤ ((x.q : Nat) : Int); omega, by show ((x.q : Nat) : Int) ≤ ((x.p : Nat) : Int); omega, by show ((x.p : Nat) : Int) ≤ 1048576; omega⟩ ⟨by show (0 : Int) ≤ ((x.s : Nat) : Int); omega, by show ((x.s : Nat) : Int) ≤ 1073741824; omega⟩
set_option maxHeartbeats 2000000 in
set_option maxRecDepth 100000 in
theorem lag_zero (x : It) (hB : ItB x) (T : Nat) (hT : T = x.s + x.p) (hT2 : T ≤ 1073741824) (w : World) : Calls Try.prog 32 #[itV x, .int .i64 (x.q : Nat), .int .i64 (T : Nat)] w (DPostL w 0 .nilIface) := by
  have HTY := Lib.hid (fun n w h => time_yes n w h)
  have HVA := Lib.hid (show ∀ W v, Tris W v 1 (fun _ => ofIt x) → Calls Try.prog 22 #[v] W (ErrPost W 0) from fun W v hv => by
    have := valid_any W v 1 _ hv
    rw [vE_one hB] at this
    exact this)
  have hq1 := hB.q1
  have hqp := hB.qp
  have hp2 := hB.p2
  have hs2 := hB.s2
  clear hB
  obtain ⟨q, p, s⟩ := x
  simp only at *
  have hd : (T : Int) - (s : Int) = (p : Int) := by omega
  have hqT : isT (q : Int) := ⟨by omega, by omega⟩
  have hTT : isT (T : Int) := ⟨by omega, by omega⟩
  have hp0 : (0 : Int) < (p : Int) := by omega
  clear hT
  go_enter Try.func32, Try.ntmps32
  go_wp2_with fail
  refine (HTY.out _ _ hqT).mono ?_
  rintro e w1 ⟨rfl, hw1⟩
  subst hw1
  go_wp2_with fail
  refine (HTY.out _ _ hTT).mono ?_
  rintro e w1 ⟨rfl, hw1⟩
  subst hw1
  go_wp2_with fail
  have hA := has_new w (.cells #[.int .i64 (q : Nat), .int .i64 (p : Nat), .int .i64 (s : Nat)] 65) _ rfl
  have hA2 := has_old hA (.cells #[.int .i64 (q : Nat), .int .i64 (p : Nat), .int .i64 (s : Nat)] 65)
  have hC := has_new (w.alloc (.cells #[.int .i64 (q : Nat), .int .i64 (p : Nat), .int .i64 (s : Nat)] 65)) (.cells #[.int .i64 (q : Nat), .int .i64 (p : Nat), .int .i64 (s : Nat)] 65) (w.heap.size + 1) (by simp)
  refine (HVA.out _ _ ⟨_, _, rfl, by omega, fun j hj => ⟨w.heap.size + 1, 0, rfl, ?c0, ?c1, ?c2⟩⟩).mono ?_
  case c0 => obtain rfl : j = 0 := by omega
             exact has_cell hC 0
  case c1 => obtain rfl : j = 0 := by omega
             exact has_cell hC 1
  case c2 => obtain rfl : j = 0 := by omega
             exact has_cell hC 2
  rintro e w2 ⟨rfl, hb2⟩
  rw [errV_0]
  have hbl := has_lt hA2
  have q0 : w2.cell? ⟨w.heap.size, 0, none⟩ = some (.int .i64 (q : Nat)) := (hb2.cell (p := ⟨w.heap.size, 0, none⟩) hbl).trans (has_cell hA2 0)
  have q1 : w2.cell? ⟨w.heap.size, 1, none⟩ = some (.int .i64 (p : Nat)) := (hb2.cell (p := ⟨w.heap.size, 1, none⟩) hbl).trans (has_cell hA2 1)
  have q2 : w2.cell? ⟨w.heap.size, 2, none⟩ = some (.int .i64 (s : Nat)) := (hb2.cell (p := ⟨w.heap.size, 2, none⟩) hbl).trans (has_cell hA2 2)
  have HB2 := Lib.hid (bnext (below_alloc ((Below.refl w.heap.size w).alloc (Nat.le_refl _) _) _) hb2)
  have hqp : q * p ≤ 1048576 * 1048576 := Nat.mul_le_mul (by omega) hp2
  have hqw : wrap64 ((q : Int) * (p : Int)) = ((q * p : Nat) : Int) := by
    have e : ((q : Int) * (p : Int)) = ((q * p : Nat) : Int) := by simp
    rw [e]
    exact IntWalk.wrap64_in _ ⟨by omega, by omega⟩
  generalize q * p = qp at *
  clear hA hA2 hC hb2 hbl
  go_wp2_with fail
  go_ret2
  exact ⟨rfl, HB2.out⟩
end Go.Proofs.Ytfahpjilgdlhiaa
