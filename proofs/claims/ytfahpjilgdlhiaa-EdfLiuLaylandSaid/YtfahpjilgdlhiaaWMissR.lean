/- The document's own Missed; no condition but those that each row names. -/
import Derived.Test.YtfahpjilgdlhiaaWMissP
import Derived.Laws.AppendOwn
namespace Go.Proofs.Ytfahpjilgdlhiaa
open Go.RowKit Edf

set_option maxHeartbeats 2000000 in
set_option maxRecDepth 100000 in
theorem rmissed_bad (w : World) (v : Value) (n : Nat) (f : Nat → Tri) (h : Tris w v n f) (pv : Value) (N : Nat) (g : Nat → Int) (hp : Nums w pv N g) (h1 : ¬ (N ≤ 4096 ∧ pOk N n g)) :
    Calls Try.prog 25 #[v, pv] w (NumsPost w 0 (fun _ => 0) (.int .i64 1)) := by
  have HP := Lib.hid hp
  obtain ⟨p0, cap0, rfl, hm0, _⟩ := hp
  obtain ⟨p1, cap1, rfl, hm1, _⟩ := h
  by_cases hN : 4096 < N
  · have hN' : (4096 : Int) < (N : Int) := by omega
    clear h1
    go_enter Try.func25, Try.ntmps25
    go_wp2_with fail
    go_ret2
    exact ⟨_, rfl, nil_nums _ _ _, Below.refl _ _⟩
  · have HK := Lib.hid (show ¬ pOk N n g from fun k => h1 ⟨by omega, k⟩)
    clear h1
    go_enter Try.func25, Try.ntmps25
    go_wp2_with fail
    go_loop [6] (fun iv => ∃ (k : Nat), k ≤ N ∧ iv = .int .i64 k ∧ Hid (∀ j, j < k → -1 ≤ g j ∧ g j < n)) (fun iv => N - (intOf iv).toNat)
    case atStart => exact ⟨0, Nat.zero_le _, rfl, Lib.hid (fun j h => by omega)⟩
    case round =>
      obtain ⟨k, hk, rfl, HA⟩ := hrel
      by_cases hlt : k < N
      · have hlt' : (k : Int) < (N : Int) := by omega
        have k0 : (0 : Int) ≤ (k : Int) := by omega
        obtain ⟨_, _, hsl, _, hcs⟩ := HP.out
        injection hsl with hs1 hs2' hs3
        subst hs1 hs3
        obtain ⟨b, off, rfl, c0⟩ := hcs k hlt
        clear hcs hs2'
        by_cases hg : -1 ≤ g k ∧ g k < n
        · obtain ⟨g1, g2⟩ := id hg
          have HA2 := Lib.hid (show ∀ j, j < k + 1 → -1 ≤ g j ∧ g j < n from fun j hj => by
            by_cases e : j = k
            · subst e; exact hg
            · exact HA.out j (by omega))
          clear hg
          generalize g k = z at *
          go_wp2_with fail
          go_round
          case rel => exact ⟨k + 1, by omega, by go_num, HA2⟩
          case measure => simp [intOf]; omega
        · by_cases g1 : g k < -1
          · clear hg
            generalize g k = z at *
            go_wp2_with fail
            go_ret2
            exact ⟨_, rfl, nil_nums _ _ _, Below.refl _ _⟩
          · have g2 : (n : Int) ≤ g k := by omega
            clear hg
            generalize g k = z at *
            go_wp2_with fail
            go_ret2
            exact ⟨_, rfl, nil_nums _ _ _, Below.refl _ _⟩
      · exact absurd (fun j hj => HA.out j (by omega)) HK.out

set_option maxHeartbeats 2000000 in
set_option maxRecDepth 100000 in
theorem rmissed_inv (w : World) (v : Value) (n : Nat) (f : Nat → Tri) (h : Tris w v n f) (pv : Value) (N : Nat) (g : Nat → Int) (hp : Nums w pv N g) (hN : N ≤ 4096) (hok : pOk N n g) (h0 : vE n f ≠ 0) :
    Calls Try.prog 25 #[v, pv] w (NumsPost w 0 (fun _ => 0) (.int .i64 (vE n f))) := by
  have HVA := Lib.hid (rvalid_any w v n f h)
  have HP := Lib.hid hp
  have HOK := Lib.hid hok
  obtain ⟨p0, cap0, rfl, hm0, _⟩ := hp
  obtain ⟨p1, cap1, rfl, hm1, _⟩ := h
  have h0' : (vE n f == 0) = false := by rw [beq_eq_false_iff_ne]; exact h0
  have h0'' : (vE n f != 0) = true := by rw [bne_iff_ne]; exact h0
  generalize vE n f = er at *
  clear hok h0
  go_enter Try.func25, Try.ntmps25
  go_wp2_with fail
  go_loop [6] (fun iv => ∃ (k : Nat), k ≤ N ∧ iv = .int .i64 k) (fun iv => N - (intOf iv).toNat)
  case atStart => exact ⟨0, Nat.zero_le _, rfl⟩
  case round =>
    obtain ⟨k, hk, rfl⟩ := hrel
    by_cases hlt : k < N
    · have hlt' : (k : Int) < (N : Int) := by omega
      have k0 : (0 : Int) ≤ (k : Int) := by omega
      obtain ⟨_, _, hsl, _, hcs⟩ := HP.out
      injection hsl with hs1 hs2' hs3
      subst hs1 hs3
      obtain ⟨b, off, rfl, c0⟩ := hcs k hlt
      obtain ⟨g1, g2⟩ := HOK.out k hlt
      clear hcs hs2'
      generalize g k = z at *
      go_wp2_with fail
      go_round
      case rel => exact ⟨k + 1, by omega, by go_num⟩
      case measure => simp [intOf]; omega
    · have hge : decide (k < N) = false := decide_eq_false hlt
      clear hlt
      go_wp2_with fail
      refine HVA.out.mono ?_
      rintro e w1 ⟨rfl, hb1⟩
      have HB1 := Lib.hid hb1
      clear hb1
      go_wp2_with fail
      go_ret2
      exact ⟨_, rfl, nil_nums _ _ _, HB1.out⟩

set_option maxHeartbeats 4000000 in
set_option maxRecDepth 100000 in
theorem rmissed_ok (w : World) (v : Value) (n : Nat) (f : Nat → Tri) (h : Tris w v n f) (pv : Value) (N : Nat) (g : Nat → Int) (hp : Nums w pv N g) (hN : N ≤ 4096) (hok : pOk N n g) (h0 : vE n f = 0) :
    Calls Try.prog 25 #[v, pv] w (NumsPost w n (mV (itI n f) N g) (.int .i64 0)) := by
  have HVA := Lib.hid (fun W (hb : Below w.heap.size w W) => rvalid_any W v n f (h.below hb))
  obtain ⟨h64, hB, hI⟩ := vE_ok h0
  have h' : Tris w v n (fun i => ofIt (itI n f i)) := h.congr hI
  rw [h0] at HVA
  generalize itI n f = I at *
  clear h0 hI h
  have HOK := Lib.hid hok
  have HP := Lib.hid (fun W (hb : Below w.heap.size w W) => hp.below hb)
  have HV := Lib.hid (fun W (hb : Below w.heap.size w W) => h'.below hb)
  have HIB := Lib.hid hB
  have HMV := Lib.hid (show ∀ k : Nat, mV I N g k = (msN (I k) k g (per (I k) N) : Nat) from fun k => rfl)
  obtain ⟨p1, cap1, rfl, hm, _⟩ := h'
  obtain ⟨p0, cap0, rfl, hm0, _⟩ := hp
  obtain ⟨i0, hi, hz0, hz1, hz2⟩ := iz_int
  clear hok hB
  go_enter Try.func25, Try.ntmps25
  go_wp2_with fail
  go_loop [6] (fun iv => ∃ (k : Nat), k ≤ N ∧ iv = .int .i64 k) (fun iv => N - (intOf iv).toNat)
  case atStart => exact ⟨0, Nat.zero_le _, rfl⟩
  case round =>
    obtain ⟨k, hk, rfl⟩ := hrel
    by_cases hlt : k < N
    · have hlt' : (k : Int) < (N : Int) := by omega
      have k0 : (0 : Int) ≤ (k : Int) := by omega
      obtain ⟨_, _, hsl, _, hcs⟩ := HP.out w (Below.refl _ _)
      injection hsl with hs1 hs2' hs3
      subst hs1 hs3
      obtain ⟨b, off, rfl, c0⟩ := hcs k hlt
      obtain ⟨g1, g2⟩ := HOK.out k hlt
      clear hcs hs2'
      generalize g k = z at *
      go_wp2_with fail
      go_round
      case rel => exact ⟨k + 1, by omega, by go_num⟩
      case measure => simp [intOf]; omega
    · have hge : decide (k < N) = false := decide_eq_false hlt
      clear hlt
      go_wp2_with fail
      refine (HVA.out _ (Below.refl _ _)).mono ?_
      rintro e w1 ⟨rfl, hb1⟩
      have HB1 := Lib.hid hb1
      clear hb1
      go_wp2_with fail
      go_loopw [8, 9] (fun ov iv wr => ∃ (k : Nat), k ≤ n ∧ iv = .int .i64 k ∧ Hid (NumsO w.heap.size wr ov k (mV I N g)) ∧ Hid (Below w.heap.size w wr)) (fun _ iv _ => n - (intOf iv).toNat)
      case atStart => exact ⟨0, Nat.zero_le _, rfl, Lib.hid (nil_nums _ _ _), HB1⟩
      case round =>
        clear HB1
        obtain ⟨k2, hk2, rfl, HO, HB⟩ := hrel
        by_cases hlt : k2 < n
        · have hlt' : (k2 : Int) < (n : Int) := by omega
          have k0 : (0 : Int) ≤ (k2 : Int) := by omega
          obtain ⟨bb, off, _, hsl, c0, c1, c2⟩ := its_at (HV.out wr HB.out) k2 hlt
          injection hsl with hs1 hs2' hs3
          subst hs1 hs3
          clear hs2'
          have HM2 := Lib.hid (HMV.out k2)
          have hq1 := (HIB.out k2).q1
          have hqp := (HIB.out k2).qp
          have hp2 := (HIB.out k2).p2
          have hs2 := (HIB.out k2).s2
          have hp1 : 1 ≤ (I k2).p := by omega
          have HPI := Lib.hid (fun k => per_iff (I k2) hp1 (N := N) (k := k))
          have HPL := Lib.hid (per_le (I k2) N)
          obtain ⟨ms, hms⟩ : ∃ ms : Nat → Nat, ∀ k, msN (I k2) k2 g k = ms k := ⟨_, fun _ => rfl⟩
          have HMS := Lib.hid (show ∀ k, ms (k + 1) = ms k + (if cnt g k2 ((I k2).s + k * (I k2).p) (I k2).p < (I k2).q then 1 else 0) from fun k => by rw [← hms, ← hms]; rfl)
          have HM0 := Lib.hid (show ms 0 = 0 by rw [← hms]; rfl)
          have HML := Lib.hid (show ∀ k, ms k ≤ k from fun k => by rw [← hms]; exact msN_le (I k2) k2 g k)
          rw [hms] at HM2
          clear hms
          generalize per (I k2) N = P at *
          generalize I k2 = x at *
          obtain ⟨q, p, s⟩ := x
          simp only at *
          go_upto_region 16 with fail
          generalize hW0 : wr.alloc (.cells #[.int .i64 (q : Nat), .int .i64 (p : Nat), .int .i64 (s : Nat)] 63) = W0
          obtain ⟨hb0, hs0, o0, o1, o2⟩ := new3 wr q p s _ _ hW0.symm
          clear hW0 c0 c1 c2
          have HO0 := Lib.hid (own_under HO.out hb0)
          have HB0 := Lib.hid (bnext HB.out hb0)
          have HP0 := Lib.hid (HP.out W0 HB0.out)
          clear hb0
          generalize wr.heap.size = X at *
          go_wp2_with fail
          go_loop [11, 12] (fun sv iv => ∃ (k : Nat), k ≤ P ∧ iv = .int .i64 ((s + k * p : Nat) : Int) ∧ sv = .int .i64 (ms k : Nat)) (fun _ iv => N + 1 - (intOf iv).toNat)
          case atStart => exact ⟨0, Nat.zero_le _, by rw [Nat.zero_mul]; rfl, by rw [HM0.out]; rfl⟩
          case round =>
            obtain ⟨k3, hk3, rfl, rfl⟩ := hrel
            have hPN := HPL.out
            have hk4 : s + k3 * p ≤ N + s := by
              by_cases e : k3 = 0
              · subst e; simp
              · have h := (HPI.out (k3 - 1)).1 (by omega)
                have h2 : k3 * p = (k3 - 1) * p + p := by rw [← Nat.succ_mul]; congr 1; omega
                omega
            by_cases hlt3 : k3 < P
            · have hfit := (HPI.out k3).1 hlt3
              have HST := Lib.hid (show s + (k3 + 1) * p = s + k3 * p + p by rw [Nat.add_mul]; omega)
              have HMS1 := Lib.hid (HMS.out k3)
              have hmk := HML.out k3
              generalize s + k3 * p = st at *
              generalize ms k3 = c at *
              have hlt3' : (st : Int) + (p : Int) ≤ (N : Int) := by omega
              go_wp2_with fail
              go_loop [13, 14] (fun hv tv => ∃ (m : Nat), m ≤ p ∧ tv = .int .i64 ((st + m : Nat) : Int) ∧ hv = .int .i64 (cnt g k2 st m : Nat)) (fun _ tv => st + p - (intOf tv).toNat)
              case atStart => exact ⟨0, Nat.zero_le _, rfl, rfl⟩
              case round =>
                obtain ⟨m, hmp, rfl, rfl⟩ := hrel
                have hcl := cnt_le g k2 st m
                by_cases hltm : m < p
                · have hltm' : ((st + m : Nat) : Int) < (st : Int) + (p : Int) := by omega
                  obtain ⟨_, _, hsl, _, hcs⟩ := HP0.out
                  injection hsl with hs1 hs2' hs3
                  subst hs1 hs3
                  obtain ⟨b, off, rfl, cc⟩ := hcs (st + m) (by omega)
                  clear hcs hs2'
                  have t0 : (0 : Int) ≤ ((st + m : Nat) : Int) := by omega
                  have t1 : ((st + m : Nat) : Int) < (N : Int) := by omega
                  by_cases he : g (st + m) = k2
                  · have HC := Lib.hid (show cnt g k2 st (m + 1) = cnt g k2 st m + 1 by simp only [cnt]; rw [if_pos he])
                    rw [he] at cc
                    clear he
                    generalize cnt g k2 st m = had at *
                    have HTM := Lib.hid (show st + (m + 1) = st + m + 1 by omega)
                    generalize st + m = tt at *
                    go_wp2_with fail
                    go_round
                    case rel => exact ⟨m + 1, by omega, by rw [HTM.out]; go_num, by rw [HC.out]; go_num⟩
                    case measure => simp [intOf]; omega
                  · have HC := Lib.hid (show cnt g k2 st (m + 1) = cnt g k2 st m by simp only [cnt]; rw [if_neg he]; rfl)
                    have he' : (g (st + m) == (k2 : Int)) = false := by rw [beq_eq_false_iff_ne]; exact he
                    clear he
                    generalize g (st + m) = z at *
                    generalize cnt g k2 st m = had at *
                    have HTM := Lib.hid (show st + (m + 1) = st + m + 1 by omega)
                    generalize st + m = tt at *
                    go_wp2_with fail
                    go_round
                    case rel => exact ⟨m + 1, by omega, by rw [HTM.out]; go_num, by rw [HC.out]⟩
                    case measure => simp [intOf]; omega
                · obtain rfl : m = p := by omega
                  have hltm' : (st : Int) + (m : Int) ≤ ((st + m : Nat) : Int) := by omega
                  clear hltm
                  by_cases hc : cnt g k2 st m < q
                  · have HMS2 := Lib.hid (show ms (k3 + 1) = c + 1 by rw [HMS1.out, if_pos hc])
                    generalize cnt g k2 st m = had at *
                    have hc' : decide (had < q) = true := decide_eq_true hc
                    go_wp2_with fail
                    go_round
                    case rel => exact ⟨k3 + 1, by omega, by rw [HST.out]; go_num, by rw [HMS2.out]; go_num⟩
                    case measure => simp [intOf]; omega
                  · have HMS2 := Lib.hid (show ms (k3 + 1) = c by rw [HMS1.out, if_neg hc]; rfl)
                    generalize cnt g k2 st m = had at *
                    have hc' : decide (had < q) = false := decide_eq_false hc
                    clear hc
                    go_wp2_with fail
                    go_round
                    case rel => exact ⟨k3 + 1, by omega, by rw [HST.out]; go_num, by rw [HMS2.out]⟩
                    case measure => simp [intOf]; omega
            · have hfit : ¬ s + k3 * p + p ≤ N := fun h => hlt3 ((HPI.out k3).2 h)
              obtain rfl : k3 = P := by omega
              generalize s + k3 * p = st at *
              generalize ms k3 = c at *
              have hlt3' : (N : Int) < (st : Int) + (p : Int) := by omega
              clear hlt3 hfit
              go_wp2_with (at_builtin; refine wpList_append_own _ rfl _ _ 30 rfl w.heap.size 3 i0 (.int .i64 0) 1 8 Try.underlying30 hi hz0 hz1 hz2 rfl (by decide) _ _ _ rfl (HO0.out.alloc _) ⟨W0.heap.size, 0, none⟩ 1 1 [.int .i64 (c : Nat)] rfl rfl ?a1 ?a2 ?a3 ?a4 ?a5 ?_)
              case a2 => rfl
              case a3 => unfold maxLen; omega
              case a4 => omega
              case a5 => have := HB0.out.size; simp; omega
              intro v' w2 hown2 hgrow2 _
              have HO1 := Lib.hid (show NumsO w.heap.size w2 v' (k2 + 1) (mV I N g) from by
                have e : numL (mV I N g) (k2 + 1) = numL (mV I N g) k2 ++ [.int .i64 (c : Nat)] := by rw [numL_succ, HM2.out]
                show w2.ownsRow _ _ 1 v' (k2 + 1) (numL (mV I N g) (k2 + 1))
                rw [e]; exact hown2)
              have HB2 := Lib.hid ((below_alloc HB0.out (.cells #[.int .i64 (c : Nat)] 3)).grown hgrow2 (by have := HB0.out.size; simp; omega) (fun g e => (HO0.out.lt g e).1))
              clear hown2 hgrow2
              go_wp2_with fail
              go_roundw
              case rel => exact ⟨k2 + 1, by omega, by go_num, HO1, HB2⟩
              case measure => simp [intOf]; omega
        · have hge2 : decide (k2 < n) = false := decide_eq_false hlt
          obtain rfl : k2 = n := by omega
          clear hlt
          go_wp2_with fail
          go_ret2
          exact ⟨_, rfl, HO.out, HB.out⟩
theorem rmissed_any (w : World) (v : Value) (n : Nat) (f : Nat → Tri) (h : Tris w v n f) (pv : Value) (N : Nat) (g : Nat → Int) (hp : Nums w pv N g) :
    Calls Try.prog 25 #[v, pv] w (NumsPost w (mN n f N g) (mG n f N g) (.int .i64 (mE n f N g))) := by
  by_cases h1 : N ≤ 4096 ∧ pOk N n g
  · have e1 : mE n f N g = vE n f := if_pos h1
    by_cases h0 : vE n f = 0
    · have e2 : mN n f N g = n := if_pos (e1.trans h0)
      have e3 : mG n f N g = mV (itI n f) N g := funext fun i => if_pos (e1.trans h0)
      rw [e2, e3, e1, h0]
      exact rmissed_ok w v n f h _ N g hp h1.1 h1.2 h0
    · have e2 : mN n f N g = 0 := if_neg (e1 ▸ h0)
      have e3 : mG n f N g = fun _ => 0 := funext fun i => if_neg (e1 ▸ h0)
      rw [e2, e3, e1]
      exact rmissed_inv w v n f h _ N g hp h1.1 h1.2 h0
  · have e1 : mE n f N g = 1 := if_neg h1
    have e2 : mN n f N g = 0 := if_neg (by rw [e1]; decide)
    have e3 : mG n f N g = fun _ => 0 := funext fun i => if_neg (by rw [e1]; decide)
    rw [e2, e3, e1]
    exact rmissed_bad w v n f h _ N g hp h1
end Go.Proofs.Ytfahpjilgdlhiaa
