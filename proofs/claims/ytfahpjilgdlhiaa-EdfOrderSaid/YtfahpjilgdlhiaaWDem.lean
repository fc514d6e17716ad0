/- What periods within a stretch ask for: the program's demand and the document's; no condition but those that each row names. -/
import Derived.Test.YtfahpjilgdlhiaaWBeg
namespace Go.Proofs.Ytfahpjilgdlhiaa
open Go.RowKit Edf

theorem nin_int (x : It) {a b : Nat} (h : bg x a ≤ b) : ((b : Int) - (bg x a : Nat)) / (x.p : Int) = (nin x a b : Nat) := by
  unfold nin
  rw [show ((b : Int) - (bg x a : Nat)) = ((b - bg x a : Nat) : Int) by omega]
  rfl
theorem nin_0 (x : It) {a b : Nat} (h : b ≤ bg x a) : nin x a b = 0 := by
  unfold nin
  rw [show b - bg x a = 0 by omega]
  exact Nat.zero_div _
theorem dem_le (x : It) (hB : ItB x) (a b : Nat) : dem x a b ≤ b := by
  have h1 : nin x a b * x.p ≤ b - bg x a := Nat.div_mul_le_self _ _
  have h2 : x.q * nin x a b ≤ x.p * nin x a b := Nat.mul_le_mul_right _ hB.qp
  unfold dem
  rw [Nat.mul_comm x.p] at h2
  omega
theorem nin_le2 (x : It) (a b : Nat) : nin x a b ≤ b := by
  have h1 : nin x a b ≤ b - bg x a := Nat.div_le_self _ _
  omega
set_option maxHeartbeats 1000000 in
theorem within_any (x : It) (hB : ItB x) (a b : Nat) (ha : a ≤ 1073741824) (hb : b ≤ 1073741824) (w : World) : Calls Try.prog 43 #[itV x, .int .i64 (a : Nat), .int .i64 (b : Nat)] w (IntPost w (nin x a b : Nat)) := by
  have hq1 := hB.q1
  have hqp := hB.qp
  have hp2 := hB.p2
  have hs2 := hB.s2
  have hp1 : 1 ≤ x.p := by omega
  have h1 := bk_mul x a
  have h2 := bk_le2 x hB a
  have hg2 := bg_le x (a := a)
  have hgz : ((x.s : Nat) : Int) + ((bk x a * x.p : Nat) : Int) = ((bg x a : Nat) : Int) := by unfold bg; omega
  have hm : wrap64 ((bk x a : Int) * (x.p : Int)) = ((bk x a * x.p : Nat) : Int) := by
    have e : ((bk x a : Int) * (x.p : Int)) = ((bk x a * x.p : Nat) : Int) := by simp
    rw [e]
    exact IntWalk.wrap64_in _ ⟨by omega, by omega⟩
  by_cases hs : x.s < a
  · have hk := bk_int x hp1 (Nat.le_of_lt hs)
    have hs' : (x.s : Int) < (a : Int) := by omega
    have hle : (0 : Int) ≤ (a : Int) - (x.s : Int) := by omega
    by_cases hgb : bg x a < b
    · have HN := nin_int x (Nat.le_of_lt hgb)
      have hgb' : ((bg x a : Nat) : Int) < (b : Int) := by omega
      obtain ⟨q, p, s⟩ := x
      simp only at *
      clear hB
      generalize bk ⟨q, p, s⟩ a * p = m at *
      generalize bk ⟨q, p, s⟩ a = k at *
      generalize bg ⟨q, p, s⟩ a = g at *
      generalize nin ⟨q, p, s⟩ a b = nn at *
      clear h1
      go_enter Try.func43, Try.ntmps43
      go_wp2_with fail
      go_ret
      exact ⟨ret_int HN, (by repeat (first | exact Below.refl _ _ | (with_reducible assumption) | refine Below.drew ?_ | (refine Below.alloc ?_ (by first | exact Nat.le_refl _ | omega | (simp; done) | (simp; omega)) _) | (refine Below.setCell ?_ (by first | omega | (simp; done) | (simp; omega)) _)))⟩
    · have HN := nin_0 x (a := a) (b := b) (by omega)
      have hgb' : (b : Int) ≤ ((bg x a : Nat) : Int) := by omega
      rw [HN]
      obtain ⟨q, p, s⟩ := x
      simp only at *
      clear hB HN
      generalize bk ⟨q, p, s⟩ a * p = m at *
      generalize bk ⟨q, p, s⟩ a = k at *
      generalize bg ⟨q, p, s⟩ a = g at *
      clear h1 hgb
      go_enter Try.func43, Try.ntmps43
      go_wp2_with fail
      go_ret
      exact ⟨ret_int (by simp), (by repeat (first | exact Below.refl _ _ | (with_reducible assumption) | refine Below.drew ?_ | (refine Below.alloc ?_ (by first | exact Nat.le_refl _ | omega | (simp; done) | (simp; omega)) _) | (refine Below.setCell ?_ (by first | omega | (simp; done) | (simp; omega)) _)))⟩
  · have hk := bk_early x hp1 (a := a) (by omega)
    have hs' : (a : Int) ≤ (x.s : Int) := by omega
    have hg3 : bg x a = x.s := by unfold bg; rw [hk]; simp
    clear hm hgz
    by_cases hgb : bg x a < b
    · have HN := nin_int x (Nat.le_of_lt hgb)
      rw [hg3] at HN
      have hgb' : ((x.s : Nat) : Int) < (b : Int) := by omega
      obtain ⟨q, p, s⟩ := x
      simp only at *
      clear hB
      generalize nin ⟨q, p, s⟩ a b = nn at *
      clear h1 h2 hk hg3 hg2 hgb hs
      go_enter Try.func43, Try.ntmps43
      go_wp2_with fail
      go_ret
      exact ⟨ret_int HN, (by repeat (first | exact Below.refl _ _ | (with_reducible assumption) | refine Below.drew ?_ | (refine Below.alloc ?_ (by first | exact Nat.le_refl _ | omega | (simp; done) | (simp; omega)) _) | (refine Below.setCell ?_ (by first | omega | (simp; done) | (simp; omega)) _)))⟩
    · have HN := nin_0 x (a := a) (b := b) (by omega)
      have hgb' : (b : Int) ≤ ((x.s : Nat) : Int) := by omega
      rw [HN]
      obtain ⟨q, p, s⟩ := x
      simp only at *
      clear hB HN h1 h2 hk hg3 hg2 hgb hs
      go_enter Try.func43, Try.ntmps43
      go_wp2_with fail
      go_ret
      exact ⟨ret_int (by simp), (by repeat (first | exact Below.refl _ _ | (with_reducible assumption) | refine Below.drew ?_ | (refine Below.alloc ?_ (by first | exact Nat.le_refl _ | omega | (simp; done) | (simp; omega)) _) | (refine Below.setCell ?_ (by first | omega | (simp; done) | (simp; omega)) _)))⟩
/-- What the first n items ask for. -/
def demN (I : Nat → It) (a b n : Nat) : Nat := sumN (fun i => dem (I i) a b) n
theorem demN_le {I : Nat → It} (hB : ∀ i, ItB (I i)) (a b : Nat) : ∀ n, demN I a b n ≤ n * b
  | 0 => by simp [demN, sumN]
  | n + 1 => by
    have h1 := demN_le hB a b n
    have h2 := dem_le (I n) (hB n) a b
    unfold demN at *
    simp only [sumN]
    rw [Nat.add_mul]
    omega
theorem its_at {n : Nat} {I : Nat → It} {w : World} {v : Value} (h : Tris w v n (fun i => ofIt (I i))) (k : Nat) (hk : k < n) : ∃ b off cap, v = .slice (some ⟨b, off, none⟩) n cap ∧
    w.cell? ⟨b, off + k * 3, none⟩ = some (.int .i64 (I k).q) ∧ w.cell? ⟨b, off + k * 3 + 1, none⟩ = some (.int .i64 (I k).p) ∧ w.cell? ⟨b, off + k * 3 + 2, none⟩ = some (.int .i64 (I k).s) := by
  obtain ⟨p, cap, rfl, _, hc⟩ := h
  obtain ⟨b, off, rfl, c⟩ := hc k hk
  exact ⟨b, off, cap, rfl, c⟩
theorem new3 (w : World) (a b c : Int) (t : TypeId) : ∀ W, W = w.alloc (.cells #[.int .i64 a, .int .i64 b, .int .i64 c] t) → Below w.heap.size w W ∧ w.heap.size < W.heap.size ∧ W.cell? ⟨w.heap.size, 0, none⟩ = some (.int .i64 a) ∧ W.cell? ⟨w.heap.size, 1, none⟩ = some (.int .i64 b) ∧ W.cell? ⟨w.heap.size, 2, none⟩ = some (.int .i64 c) := by
  rintro W rfl
  have hn := has_new w (.cells #[.int .i64 a, .int .i64 b, .int .i64 c] t) _ rfl
  exact ⟨(Below.refl _ _).alloc (Nat.le_refl _) _, by simp, has_cell hn 0, has_cell hn 1, has_cell hn 2⟩
set_option maxHeartbeats 2000000 in
set_option maxRecDepth 100000 in
theorem demand_any (w : World) (v : Value) (n : Nat) (I : Nat → It) (hB : ∀ i, ItB (I i)) (hn : n ≤ 64) (h : Tris w v n (fun i => ofIt (I i))) (a b : Nat) (ha : a ≤ 1073741824) (hb : b ≤ 1073741824) :
    Calls Try.prog 42 #[v, .int .i64 (a : Nat), .int .i64 (b : Nat)] w (IntPost w (demN I a b n : Nat)) := by
  have HV := Lib.hid (fun w1 (hb : Below w.heap.size w w1) => h.below hb)
  obtain ⟨p, cap, rfl, hm, hdrop⟩ := h
  have HIB := Lib.hid hB
  have HBG := Lib.hid (fun i w => begin_any (I i) (hB i) a ha w)
  have HDL := Lib.hid (fun k => demN_le hB a b k)
  clear hdrop hB
  go_enter Try.func42, Try.ntmps42
  go_wp2_with fail
  go_loopw [7, 12] (fun sv iv wr => ∃ (k : Nat), k ≤ n ∧ iv = .int .i64 k ∧ sv = .int .i64 (demN I a b k : Nat) ∧ Hid (Below w.heap.size w wr)) (fun _ iv _ => n - (intOf iv).toNat)
  case atStart => exact ⟨0, Nat.zero_le _, rfl, rfl, Lib.hid (Below.refl _ _)⟩
  case round =>
    obtain ⟨k, hk, rfl, rfl, HB⟩ := hrel
    by_cases hlt : k < n
    · have hlt' : (k : Int) < (n : Int) := by omega
      have k0 : (0 : Int) ≤ (k : Int) := by omega
      obtain ⟨bb, off, _, hsl, c0, c1, c2⟩ := its_at (HV.out wr HB.out) k hlt
      injection hsl with hs1 hs2 hs3
      subst hs1 hs3
      clear hs2
      have HS := Lib.hid (show demN I a b (k + 1) = demN I a b k + (I k).q * nin (I k) a b from rfl)
      have hd1 := HDL.out k
      have hd2 := HDL.out (k + 1)
      have hd3 : k * b ≤ 64 * 1073741824 := Nat.mul_le_mul (by omega) hb
      have hd4 : (k + 1) * b ≤ 64 * 1073741824 := Nat.mul_le_mul (by omega) hb
      rw [HS.out] at hd2
      have HB1 := Lib.hid (HBG.out k)
      have hg2 := bg_le (I k) (a := a)
      have hq1 := (HIB.out k).q1
      have hqp := (HIB.out k).qp
      have hp2 := (HIB.out k).p2
      have hs2 := (HIB.out k).s2
      have hnn := nin_le2 (I k) a b
      have HN1 := Lib.hid (fun h => nin_int (I k) (a := a) (b := b) h)
      have HN0 := Lib.hid (fun h => nin_0 (I k) (a := a) (b := b) h)
      generalize I k = x at *
      generalize demN I a b k = S at *
      obtain ⟨q, p, s⟩ := x
      simp only at *
      generalize bg ⟨q, p, s⟩ a = g at *
      generalize nin ⟨q, p, s⟩ a b = nn at *
      have hbl := cell_lt c0
      go_upto_region 5 with fail
      generalize hW0 : wr.alloc (.cells #[.int .i64 (q : Nat), .int .i64 (p : Nat), .int .i64 (s : Nat)] 65) = W0
      obtain ⟨hb0, hs0, o0, o1, o2⟩ := new3 wr q p s _ _ hW0.symm
      clear hW0
      have HB0 := Lib.hid (bnext HB.out hb0)
      have HX := Lib.hid (show ∀ W, Below W0.heap.size W0 W → (W.cell? ⟨wr.heap.size, 0, none⟩ = some (.int .i64 (q : Nat)) ∧ W.cell? ⟨wr.heap.size, 1, none⟩ = some (.int .i64 (p : Nat)) ∧ W.cell? ⟨wr.heap.size, 2, none⟩ = some (.int .i64 (s : Nat)) ∧ Below W0.heap.size W0 W) from fun W hb =>
        ⟨(hb.cell (p := ⟨wr.heap.size, 0, none⟩) hs0).trans o0, (hb.cell (p := ⟨wr.heap.size, 1, none⟩) hs0).trans o1, (hb.cell (p := ⟨wr.heap.size, 2, none⟩) hs0).trans o2, hb⟩)
      clear hb0 c0 c1 c2 hbl
      obtain ⟨qn, hqn⟩ : ∃ z, z = q * nn := ⟨_, rfl⟩
      rw [← hqn] at hd2 HS
      have e3 : IntKind.i64.wrap ((q : Int) * (nn : Int)) = (qn : Int) := by
        have e : ((q : Int) * (nn : Int)) = (qn : Int) := by rw [hqn]; simp
        rw [e]; exact IntWalk.i64_in _ (by omega)
      obtain ⟨S', hS'⟩ : ∃ z, z = demN I a b (k + 1) := ⟨_, rfl⟩
      rw [← hS'] at HS
      have e4 : IntKind.i64.wrap ((S : Int) + (qn : Int)) = (S' : Int) := by
        rw [HS.out]; rw [show ((S + qn : Nat) : Int) = (S : Int) + (qn : Int) by omega]; exact IntWalk.i64_in _ (by omega)
      have HS' := Lib.hid hS'
      have HQ := Lib.hid hqn
      clear hqn hS'
      by_cases hgb : g < b
      · have hgb' : (g : Int) < (b : Int) := by omega
        have e1 : IntKind.i64.wrap ((b : Int) - (g : Int)) = (b : Int) - (g : Int) := IntWalk.i64_in _ (by omega)
        have e2 : ((b : Int) - (g : Int)).tdiv (p : Int) = (nn : Int) := by
          rw [Int.tdiv_eq_ediv_of_nonneg (by omega)]; exact HN1.out (by omega)
        have e5 : IntKind.i64.wrap (nn : Int) = (nn : Int) := IntWalk.i64_in _ (by omega)
        have hp0 : ¬ p = 0 := by omega
        have hp0' : ((p : Int) == 0) = false := by rw [beq_eq_false_iff_ne]; omega
        go_region_held3 (fun W => W.cell? ⟨wr.heap.size, 0, none⟩ = some (.int .i64 (q : Nat)) ∧ W.cell? ⟨wr.heap.size, 1, none⟩ = some (.int .i64 (p : Nat)) ∧ W.cell? ⟨wr.heap.size, 2, none⟩ = some (.int .i64 (s : Nat)) ∧ Below W0.heap.size W0 W)
          (first | exact HX.out _ below_drewOne | exact HX.out _ (Below.refl _ _) | (go_split_ands; refine HX.out _ (bnext ?_ hb); first | assumption | exact below_drewOne | exact Below.refl _ _))
          (first | (go_at_call 51; refine (HB1.out _).mono ?_; rintro e w3 ⟨rfl, hb⟩))
        all_goals
          go_wp2_with fail
          go_roundw
          case rel => go_split_ands; exact ⟨k + 1, by omega, by go_num, by rw [HS'.out], Lib.hid (bnext HB0.out (by assumption))⟩
          case measure => simp [intOf]; omega
      · have hgb' : (b : Int) ≤ (g : Int) := by omega
        have hz := HN0.out (by omega)
        subst hz
        have e1 : IntKind.i64.wrap ((b : Int) - (g : Int)) = (b : Int) - (g : Int) := IntWalk.i64_in _ (by omega)
        have e2 : (0 : Int).tdiv (p : Int) = 0 := Int.zero_tdiv _
        have hp0 : ¬ p = 0 := by omega
        have hp0' : ((p : Int) == 0) = false := by rw [beq_eq_false_iff_ne]; omega
        have hq0 : qn = 0 := by rw [HQ.out]; simp
        have e4' : IntKind.i64.wrap (S : Int) = (S' : Int) := by rw [HS.out, hq0]; exact IntWalk.i64_in _ (by omega)
        clear e3 e4 hq0
        have e6 : IntKind.i64.wrap 0 = 0 := IntWalk.i64_in _ (by omega)
        have e7 : (q : Int) * 0 = 0 := by omega
        go_region_held3 (fun W => W.cell? ⟨wr.heap.size, 0, none⟩ = some (.int .i64 (q : Nat)) ∧ W.cell? ⟨wr.heap.size, 1, none⟩ = some (.int .i64 (p : Nat)) ∧ W.cell? ⟨wr.heap.size, 2, none⟩ = some (.int .i64 (s : Nat)) ∧ Below W0.heap.size W0 W)
          (first | exact HX.out _ below_drewOne | exact HX.out _ (Below.refl _ _) | (go_split_ands; refine HX.out _ (bnext ?_ hb); first | assumption | exact below_drewOne | exact Below.refl _ _))
          (first | (go_at_call 51; refine (HB1.out _).mono ?_; rintro e w3 ⟨rfl, hb⟩))
        all_goals
          go_wp2_with fail
          go_roundw
          case rel => go_split_ands; exact ⟨k + 1, by omega, by go_num, by rw [HS'.out], Lib.hid (bnext HB0.out (by assumption))⟩
          case measure => simp [intOf]; omega
    · have hge : decide (k < n) = false := decide_eq_false hlt
      obtain rfl : k = n := by omega
      clear hlt
      go_wp2_with fail
      go_ret
      exact ⟨rfl, HB.out⟩
end Go.Proofs.Ytfahpjilgdlhiaa
