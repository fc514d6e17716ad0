/- How many links a tree has, as the laws count them; no condition. -/
import Derived.Test.YtlnamkplbikcjaaGreatDoorYIn
namespace Go.Proofs.YtlnamkplbikcjaaGreatDoor
open Go.RowKit Ft

namespace Ft
/-- How many links, up to a limit. -/
def Dt.many : Dt → Nat → Nat
  | .nil, _ => 1
  | .mk _ _ _ _ _ m a b, most =>
    let n1 := if 0 < m ∧ 1 < most then 1 + a.many (most - 1) else 1
    if 1 < m ∧ n1 < most then n1 + b.many (most - n1) else n1
def Dt.n1 (d : Dt) (most : Nat) : Nat := if 0 < d.m ∧ 1 < most then 1 + d.kid0.many (most - 1) else 1
theorem Dt.n1_pos {d : Dt} {most : Nat} (h : 0 < d.m) (hq : 1 < most) : d.n1 most = 1 + d.kid0.many (most - 1) := if_pos ⟨h, hq⟩
theorem Dt.n1_neg {d : Dt} {most : Nat} (h : ¬ (0 < d.m ∧ 1 < most)) : d.n1 most = 1 := if_neg h
theorem n1_same (m : Nat) (a : Dt) (most : Nat) : (if 0 < m ∧ 1 < most then 1 + (if 0 < m then a else Dt.nil).many (most - 1) else 1) = if 0 < m ∧ 1 < most then 1 + a.many (most - 1) else 1 := by
  by_cases hh : 0 < m ∧ 1 < most
  · rw [if_pos hh, if_pos hh, if_pos hh.1]
  · rw [if_neg hh, if_neg hh]
theorem n2_same (m n1 : Nat) (b : Dt) (most : Nat) : (if 1 < m ∧ n1 < most then n1 + b.many (most - n1) else n1) = if 1 < m ∧ n1 < most then n1 + (if 1 < m then b else Dt.nil).many (most - n1) else n1 := by
  by_cases hh : 1 < m ∧ n1 < most
  · rw [if_pos hh, if_pos hh, if_pos hh.1]
  · rw [if_neg hh, if_neg hh]
theorem Dt.many_eq (d : Dt) (most : Nat) : d.many most = if 1 < d.m ∧ d.n1 most < most then d.n1 most + d.kid1.many (most - d.n1 most) else d.n1 most := by
  cases d with
  | nil => rfl
  | mk k op h n t m a b =>
    have e1 : (Dt.mk k op h n t m a b).n1 most = if 0 < m ∧ 1 < most then 1 + a.many (most - 1) else 1 := n1_same m a most
    rw [e1]
    exact n2_same m _ b most
/-- How many there are. -/
def Dt.sz : Dt → Nat
  | .nil => 1
  | .mk _ _ _ _ _ m a b => 1 + (if 0 < m then a.sz else 0) + (if 1 < m then b.sz else 0)
theorem Dt.many_le (d : Dt) : ∀ most, 1 ≤ most → d.many most ≤ most := by
  induction d with
  | nil => intro most hm; simpa [Dt.many] using hm
  | mk k op h n t m a b iha ihb =>
    intro most hq
    simp only [Dt.many]
    have h1 : (if 0 < m ∧ 1 < most then 1 + a.many (most - 1) else 1) ≤ most := by
      by_cases hh : 0 < m ∧ 1 < most
      · rw [if_pos hh]; have := iha (most - 1) (by omega); omega
      · rw [if_neg hh]; exact hq
    generalize (if 0 < m ∧ 1 < most then 1 + a.many (most - 1) else 1) = n1 at *
    by_cases hh : 1 < m ∧ n1 < most
    · rw [if_pos hh]; have := ihb (most - n1) (by omega); omega
    · rw [if_neg hh]; exact h1
theorem Dt.many_pos (d : Dt) (most : Nat) : 1 ≤ d.many most := by
  cases d with
  | nil => exact Nat.le_refl _
  | mk k op h n t m a b =>
    simp only [Dt.many]
    have h1 : 1 ≤ (if 0 < m ∧ 1 < most then 1 + a.many (most - 1) else 1) := by
      by_cases hh : 0 < m ∧ 1 < most
      · rw [if_pos hh]; omega
      · rw [if_neg hh]; omega
    generalize (if 0 < m ∧ 1 < most then 1 + a.many (most - 1) else 1) = n1 at *
    by_cases hh : 1 < m ∧ n1 < most
    · rw [if_pos hh]; omega
    · rw [if_neg hh]; exact h1
theorem Dt.many_sz (d : Dt) : ∀ most, d.many most < most → d.many most = d.sz := by
  induction d with
  | nil => intro most _; rfl
  | mk k op h n t m a b iha ihb =>
    intro most hlt
    simp only [Dt.many] at hlt ⊢
    simp only [Dt.sz]
    have hy : (0 < m ∧ 1 < most) → (if 0 < m ∧ 1 < most then 1 + a.many (most - 1) else 1) = 1 + a.many (most - 1) := fun h => if_pos h
    have hno : ¬ (0 < m ∧ 1 < most) → (if 0 < m ∧ 1 < most then 1 + a.many (most - 1) else 1) = 1 := fun h => if_neg h
    generalize (if 0 < m ∧ 1 < most then 1 + a.many (most - 1) else 1) = n1 at *
    have ha := a.many_pos (most - 1)
    have hb := b.many_pos (most - n1)
    have ia := iha (most - 1)
    have ib := ihb (most - n1)
    generalize a.many (most - 1) = A at *
    generalize b.many (most - n1) = B at *
    by_cases hm : 0 < m
    · rw [if_pos hm]
      by_cases hm2 : 1 < m
      · rw [if_pos hm2]
        by_cases hq : n1 < most
        · rw [if_pos ⟨hm2, hq⟩] at hlt ⊢
          by_cases hq1 : 1 < most
          · have := hy ⟨hm, hq1⟩
            have h1 := ia (by omega)
            have h2 := ib (by omega)
            omega
          · have := hno (fun h => hq1 h.2)
            omega
        · rw [if_neg (fun h => hq h.2)] at hlt
          exact absurd hlt hq
      · rw [if_neg hm2]
        rw [if_neg (fun h => hm2 h.1)] at hlt ⊢
        by_cases hq1 : 1 < most
        · have := hy ⟨hm, hq1⟩
          have h1 := ia (by omega)
          omega
        · have := hno (fun h => hq1 h.2)
          omega
    · have := hno (fun h => hm h.1)
      rw [if_neg hm, if_neg (show ¬ 1 < m by omega), if_neg (fun h => hm (by have := h.1; omega))]
      exact this
end Ft

/-- What many answers. -/
def ManyP (w : World) (d : Dt) (q : Nat) (r : Ending) (w' : World) : Prop := r = .returned (.int .i64 (d.many q : Nat)) ∧ Below w.heap.size w w'
theorem many_gen (d : Dt)
    (ih0 : 0 < d.m → ∀ (v : Value) (w : World) (q : Nat), 1 ≤ q → q ≤ 400 → DV w d.kid0 v → Calls Tryz.prog 14 #[v, .int .i64 (q : Nat)] w (ManyP w d.kid0 q))
    (ih1 : 1 < d.m → ∀ (v : Value) (w : World) (q : Nat), 1 ≤ q → q ≤ 400 → DV w d.kid1 v → Calls Tryz.prog 14 #[v, .int .i64 (q : Nat)] w (ManyP w d.kid1 q))
    (v : Value) (w : World) (q : Nat) (hq1 : 1 ≤ q) (hq : q ≤ 400) (hv : DV w d v) : Calls Tryz.prog 14 #[v, .int .i64 (q : Nat)] w (ManyP w d q) := by
  obtain ⟨p, cap, rfl, hm, h0, h1⟩ := hv.parts
  have HE := Lib.hid (Dt.many_eq d q)
  have HN1 : Hid (d.n1 q = if 0 < d.m ∧ 1 < q then 1 + d.kid0.many (q - 1) else 1) := Lib.hid rfl
  have HL0 := Lib.hid (fun q => d.kid0.many_le q)
  have HL1 := Lib.hid (fun q => d.kid1.many_le q)
  have HP0 := Lib.hid (fun q => d.kid0.many_pos q)
  have H0 := Lib.hid h0
  have H1 := Lib.hid h1
  have I0 := Lib.hid ih0
  have I1 := Lib.hid ih1
  clear hv h0 h1 ih0 ih1
  unfold ManyP
  rw [HE.out]
  generalize d.n1 q = n1 at *
  clear HE
  generalize d.k = k at *; generalize d.op = op at *; generalize d.h = h at *; generalize d.n = n at *; generalize d.t = t at *; generalize d.m = m at *
  generalize d.kid0 = e0 at *; generalize d.kid1 = e1 at *
  obtain ⟨T, hT⟩ : ∃ T, T = if 1 < m ∧ n1 < q then n1 + e1.many (q - n1) else n1 := ⟨_, rfl⟩
  rw [← hT]
  have HTT := Lib.hid hT
  clear hT
  go_enter Tryz.func14, Tryz.ntmps14
  go_wp2_with fail
  go_loopw [5, 6] (fun nv iv wr => ((iv = .int .i64 0 ∧ nv = .int .i64 1) ∨ (iv = .int .i64 1 ∧ nv = .int .i64 (n1 : Nat) ∧ 0 < m ∧ n1 ≤ q) ∨ (iv = .int .i64 2 ∧ nv = .int .i64 (T : Nat))) ∧ Hid (Below w.heap.size w wr) ∧ Hid (wr.cell? ⟨w.heap.size, 5, none⟩ = some (.slice p m cap))) (fun _ iv _ => 2 - (intOf iv).toNat)
  case atStart => exact ⟨.inl ⟨rfl, rfl⟩, Lib.hid (by repeat (first | exact Below.refl _ _ | (with_reducible assumption) | refine Below.drew ?_ | (refine Below.alloc ?_ (by first | exact Nat.le_refl _ | omega | (simp; done) | (simp; omega)) _) | (refine Below.setCell ?_ (by first | omega | (simp; done) | (simp; omega)) _))), Lib.hid (by simp)⟩
  case round =>
    obtain ⟨hj, hb, hx5⟩ := hrel
    have x5 := hx5.out
    rcases hj with ⟨rfl, rfl⟩ | ⟨rfl, rfl, hm0, hn1⟩ | ⟨rfl, rfl⟩
    · by_cases hm0 : 0 < m
      · have hm0' : (0 : Int) < (m : Int) := by omega
        by_cases hq2 : 1 < q
        · have hq2' : (1 : Int) < (q : Int) := by omega
          have HN := Lib.hid (show n1 = 1 + e0.many (q - 1) by rw [HN1.out, if_pos ⟨hm0, hq2⟩])
          obtain ⟨g, off, x, rfl, he, hx⟩ := H0.out hm0
          obtain ⟨p2, cap2, rfl, y0, y1, y2, y3, y4, y5⟩ := elt_parts (he.below hb.out) (DV.below hb.out hx)
          obtain ⟨A, hAe⟩ : ∃ A, A = e0.many (q - 1) := ⟨_, rfl⟩
          have hle := HL0.out (q - 1) (by omega)
          rw [← hAe] at hle
          have HC := (I0.out hm0 _ wr (q - 1) (by omega) (by omega) (DV.below hb.out hx)).mono (R' := fun r w' => r = .returned (.int .i64 (A : Nat)) ∧ Below wr.heap.size wr w') (fun r w' h => ⟨by rw [hAe]; exact h.1, h.2⟩)
          rw [show ((q - 1 : Nat) : Int) = (q : Int) - 1 by omega] at HC
          have HC := Lib.hid HC
          have HN := Lib.hid (show n1 = 1 + A by rw [hAe]; exact HN.out)
          clear he hx hAe
          have hA : (A : Int) ≤ 400 := by omega
          have hA0 : (0 : Int) ≤ (A : Int) := by omega
          have HA := Lib.hid (show n1 ≤ q by have := HN.out; omega)
          clear hle
          go_wp2_with fail
          refine HC.out.mono ?_
          rintro r w1 ⟨rfl, hb1⟩
          have x5' := (hb1.cell (p := ⟨w.heap.size, 5, none⟩) (cell_lt x5)).trans x5
          go_wp2_with fail
          go_roundw
          case rel => exact ⟨.inr (.inl ⟨rfl, by rw [HN.out]; push_cast; rfl, hm0, HA.out⟩), Lib.hid (bnext hb.out hb1), Lib.hid x5'⟩
          case measure => simp [intOf]
        · have hq2' : ¬ (1 : Int) < (q : Int) := by omega
          have HT := Lib.hid (show T = 1 by
            rw [HTT.out, show n1 = 1 by rw [HN1.out, if_neg (fun h => hq2 h.2)], if_neg (fun h => hq2 h.2)])
          go_wp2_with fail
          go_ret
          exact ⟨by rw [HT.out]; rfl, hb.out⟩
      · have hm0' : ¬ (0 : Int) < (m : Int) := by omega
        have HT := Lib.hid (show T = 1 by
          rw [HTT.out, show n1 = 1 by rw [HN1.out, if_neg (fun h => hm0 h.1)], if_neg (fun h => hm0 (by have := h.1; omega))])
        go_wp2_with fail
        go_ret
        exact ⟨by rw [HT.out]; rfl, hb.out⟩
    · by_cases hm1 : 1 < m
      · have hm1' : (1 : Int) < (m : Int) := by omega
        by_cases hq2 : n1 < q
        · have hq2' : (n1 : Int) < (q : Int) := by omega
          have HT := Lib.hid (show T = n1 + e1.many (q - n1) from HTT.out.trans (if_pos ⟨hm1, hq2⟩))
          obtain ⟨g, off, x, rfl, he, hx⟩ := H1.out hm1
          obtain ⟨p2, cap2, rfl, y0, y1, y2, y3, y4, y5⟩ := elt_parts (he.below hb.out) (DV.below hb.out hx)
          rw [Nat.add_assoc] at y1 y2 y3 y4 y5
          obtain ⟨A, hAe⟩ : ∃ A, A = e1.many (q - n1) := ⟨_, rfl⟩
          have hle := HL1.out (q - n1) (by omega)
          rw [← hAe] at hle
          have HC := (I1.out hm1 _ wr (q - n1) (by omega) (by omega) (DV.below hb.out hx)).mono (R' := fun r w' => r = .returned (.int .i64 (A : Nat)) ∧ Below wr.heap.size wr w') (fun r w' h => ⟨by rw [hAe]; exact h.1, h.2⟩)
          rw [show ((q - n1 : Nat) : Int) = (q : Int) - (n1 : Int) by omega] at HC
          have HC := Lib.hid HC
          have HT := Lib.hid (show T = n1 + A by rw [hAe]; exact HT.out)
          clear he hx hAe
          have hA : (n1 : Int) + (A : Int) ≤ 400 := by omega
          have hA0 : (0 : Int) ≤ (n1 : Int) + (A : Int) := by omega
          clear hle
          go_wp2_with fail
          refine HC.out.mono ?_
          rintro r w1 ⟨rfl, hb1⟩
          have x5' := (hb1.cell (p := ⟨w.heap.size, 5, none⟩) (cell_lt x5)).trans x5
          go_wp2_with fail
          go_roundw
          case rel => exact ⟨.inr (.inr ⟨rfl, by rw [HT.out]; push_cast; rfl⟩), Lib.hid (bnext hb.out hb1), Lib.hid x5'⟩
          case measure => simp [intOf]
        · have hq2' : ¬ (n1 : Int) < (q : Int) := by omega
          have HT := Lib.hid (show T = n1 from HTT.out.trans (if_neg (fun h => hq2 h.2)))
          go_wp2_with fail
          go_ret
          exact ⟨by rw [HT.out]; rfl, hb.out⟩
      · have hm1' : ¬ (1 : Int) < (m : Int) := by omega
        have HT := Lib.hid (show T = n1 from HTT.out.trans (if_neg (fun h => hm1 h.1)))
        go_wp2_with fail
        go_ret
        exact ⟨by rw [HT.out]; rfl, hb.out⟩
    · go_wp2_with fail
      all_goals (go_ret; exact ⟨rfl, hb.out⟩)
theorem many_any : ∀ (d : Dt) (v : Value) (w : World) (q : Nat), 1 ≤ q → q ≤ 400 → DV w d v → Calls Tryz.prog 14 #[v, .int .i64 (q : Nat)] w (ManyP w d q) := by
  intro d
  induction d with
  | nil => exact fun v w q h1 h2 hv => many_gen .nil (fun h => absurd h (by simp [Dt.m])) (fun h => absurd h (by simp [Dt.m])) v w q h1 h2 hv
  | mk k op h n t m a b iha ihb =>
    refine fun v w q h1 h2 hv => many_gen _ (fun hm => ?_) (fun hm => ?_) v w q h1 h2 hv
    · rw [Dt.kid0_mk, if_pos (show 0 < m from hm)]; exact iha
    · rw [Dt.kid1_mk, if_pos (show 1 < m from hm)]; exact ihb
theorem plain_any (d : Dt) (v : Value) (w : World) (hv : DV w d v) : Calls Tryz.prog 5 #[v] w fun r w' => r = .returned (.bool (decide (d.many 400 < 400))) ∧ Below w.heap.size w w' := by
  obtain ⟨p, cap, rfl, hm, h0, h1⟩ := hv.parts
  have hb : Below w.heap.size w (w.alloc (.cells #[.int .i64 d.k, .int .i64 d.op, .int .i64 d.h, .int .i64 d.n, .string d.t, .slice p d.m cap] 25)) := (by repeat (first | exact Below.refl _ _ | (with_reducible assumption) | refine Below.drew ?_ | (refine Below.alloc ?_ (by first | exact Nat.le_refl _ | omega | (simp; done) | (simp; omega)) _) | (refine Below.setCell ?_ (by first | omega | (simp; done) | (simp; omega)) _)))
  have HM := Lib.hid (many_any d _ (w.alloc (.cells #[.int .i64 d.k, .int .i64 d.op, .int .i64 d.h, .int .i64 d.n, .string d.t, .slice p d.m cap] 25)) 400 (by omega) (by omega) (DV.below hb hv))
  have HB := Lib.hid hb
  clear hb hv h0 h1
  go_enter Tryz.func5, Tryz.ntmps5
  go_wp2_with fail
  refine HM.out.mono ?_
  rintro r w1 ⟨rfl, hb1⟩
  go_wp2_with fail
  go_ret
  exact ⟨by rw [show decide (d.many 400 < 400) = decide (((d.many 400 : Nat) : Int) < 400) from decide_eq_decide.2 (by omega)]; rfl, bnext HB.out hb1⟩
end Go.Proofs.YtlnamkplbikcjaaGreatDoor
