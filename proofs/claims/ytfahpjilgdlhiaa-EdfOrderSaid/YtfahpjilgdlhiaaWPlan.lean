/- Earliest deadline first, tick by tick: what is left of each item, who is picked, and the theorem (Horn): a period is missed only where a stretch that ends with it asks for more than it has; no condition but those that each row names. -/
import Derived.Test.YtfahpjilgdlhiaaWMath
namespace Go.Proofs.Ytfahpjilgdlhiaa
namespace Edf
/-- Three numbers: a child (its slot, what is left, when its period ends) or an item (Q, P, Start). -/
structure Tri where
  a : Int
  b : Int
  c : Int
/-- Is the child at a picked ahead of that at b? -/
def Ahead (c : Nat → Tri) (a b : Nat) : Prop := (c a).c < (c b).c ∨ (c a).c = (c b).c ∧ ((c a).a < (c b).a ∨ (c a).a = (c b).a ∧ a < b)
instance (c : Nat → Tri) (a b : Nat) : Decidable (Ahead c a b) := by unfold Ahead; infer_instance
def AheadO (c : Nat → Tri) (n : Nat) : Option Nat → Prop
  | none => True
  | some b => Ahead c n b
instance (c : Nat → Tri) (n : Nat) (o : Option Nat) : Decidable (AheadO c n o) := by cases o <;> (unfold AheadO; infer_instance)
/-- Who is picked of the first n. -/
def pick (c : Nat → Tri) : Nat → Option Nat
  | 0 => none
  | n + 1 => if 0 < (c n).b ∧ AheadO c n (pick c n) then some n else pick c n
theorem ahead_trans {c : Nat → Tri} {x y z : Nat} (h1 : Ahead c x y) (h2 : Ahead c y z) : Ahead c x z := by unfold Ahead at *; omega
theorem ahead_irrefl {c : Nat → Tri} {x : Nat} (h : Ahead c x x) : False := by unfold Ahead at h; omega
theorem ahead_total {c : Nat → Tri} {x y : Nat} (h : x ≠ y) : Ahead c x y ∨ Ahead c y x := by unfold Ahead; omega
theorem ahead_neg {c : Nat → Tri} {x y : Nat} (h : ¬ Ahead c x y) : x = y ∨ Ahead c y x := by
  by_cases e : x = y
  · exact .inl e
  · exact .inr ((ahead_total e).resolve_left h)
theorem pick_none {c : Nat → Tri} : ∀ {n}, pick c n = none → ∀ i, i < n → ¬ 0 < (c i).b
  | 0, _, i, hi => by omega
  | n + 1, h, i, hi => by
    simp only [pick] at h
    split at h
    · cases h
    · rename_i hc
      have h1 := pick_none h
      rw [h] at hc
      by_cases e : i = n
      · subst e; intro k; exact hc ⟨k, trivial⟩
      · exact h1 i (by omega)
theorem pick_some {c : Nat → Tri} : ∀ {n k}, pick c n = some k → k < n ∧ 0 < (c k).b ∧ ∀ i, i < n → 0 < (c i).b → i = k ∨ Ahead c k i
  | 0, _, h => by cases h
  | n + 1, k, h => by
    simp only [pick] at h
    split at h
    · rename_i hc
      cases h
      refine ⟨by omega, hc.1, fun i hi hl => ?_⟩
      by_cases e : i = n
      · exact .inl e
      · right
        cases hp : pick c n with
        | none => exact absurd hl (pick_none hp i (by omega))
        | some b =>
          rw [hp] at hc
          rcases (pick_some hp).2.2 i (by omega) hl with rfl | h3
          · exact hc.2
          · exact ahead_trans hc.2 h3
    · rename_i hc
      obtain ⟨h1, h2, h3⟩ := pick_some h
      refine ⟨by omega, h2, fun i hi hl => ?_⟩
      by_cases e : i = n
      · subst e
        rw [h] at hc
        exact (ahead_neg fun k => hc ⟨hl, k⟩)
      · exact h3 i (by omega) hl
theorem pick_iff {c : Nat → Tri} {n k : Nat} (h1 : k < n) (h2 : 0 < (c k).b) (h3 : ∀ i, i < n → 0 < (c i).b → i = k ∨ Ahead c k i) : pick c n = some k := by
  cases hp : pick c n with
  | none => exact absurd h2 (pick_none hp k h1)
  | some b =>
    obtain ⟨b1, b2, b3⟩ := pick_some hp
    rcases b3 k h1 h2 with rfl | h4
    · rfl
    · rcases h3 b b1 b2 with rfl | h5
      · rfl
      · exact (ahead_irrefl (ahead_trans h4 h5)).elim
theorem pick_none_of {c : Nat → Tri} {n : Nat} (h : ∀ i, i < n → ¬ 0 < (c i).b) : pick c n = none := by
  cases hp : pick c n with
  | none => rfl
  | some b => obtain ⟨b1, b2, _⟩ := pick_some hp; exact absurd b2 (h b b1)
theorem pick_congr {c d : Nat → Tri} : ∀ n, (∀ i, i < n → (c i = d i ∨ ¬ 0 < (c i).b ∧ ¬ 0 < (d i).b)) → pick c n = pick d n
  | 0, _ => rfl
  | n + 1, h => by
    have h1 := pick_congr n fun i hi => h i (by omega)
    simp only [pick]
    rw [← h1]
    rcases h n (by omega) with e | ⟨e1, e2⟩
    · rw [← e]
      cases hp : pick c n with
      | none => rfl
      | some b =>
        obtain ⟨b1, b2, _⟩ := pick_some hp
        have hb : c b = d b := by rcases h b (by omega) with e2 | ⟨e2, _⟩; exact e2; exact absurd b2 e2
        have : AheadO c n (some b) ↔ AheadO d n (some b) := by show Ahead c n b ↔ Ahead d n b; unfold Ahead; rw [e, hb]
        simp only [this]
    · rw [if_neg fun k => e1 k.1, if_neg fun k => e2 k.1]
/-- A place as a number: -1 is nobody. -/
def placeZ : Option Nat → Int
  | none => -1
  | some k => k
theorem placeZ_eq {o : Option Nat} {i : Nat} : placeZ o = (i : Int) ↔ o = some i := by
  cases o with
  | none => simp [placeZ]
  | some k => simp [placeZ]; omega
/-- Does a period of the item begin at t? -/
def Begins (x : It) (t : Nat) : Prop := x.s ≤ t ∧ (t - x.s) % x.p = 0
instance (x : It) (t : Nat) : Decidable (Begins x t) := by unfold Begins; infer_instance
section
variable (I : Nat → It) (n : Nat)
def fil (t : Nat) (L : Nat → Nat) : Nat → Nat := fun i => if Begins (I i) t then (I i).q else L i
/-- The end of the period that the item is in at t. -/
def fin (x : It) (t : Nat) : Nat := t - (t - x.s) % x.p + x.p
def chi (t : Nat) (L : Nat → Nat) : Nat → Tri := fun i => ⟨i, L i, fin (I i) t⟩
def dec (L : Nat → Nat) (o : Option Nat) : Nat → Nat := fun i => if o = some i then L i - 1 else L i
def st : Nat → Nat → Nat
  | 0 => fun _ => 0
  | t + 1 => dec (fil I t (st t)) (pick (chi I t (fil I t (st t))) n)
def lf (t : Nat) : Nat → Nat := fil I t (st I n t)
def pl (t : Nat) : Option Nat := pick (chi I t (lf I n t)) n
def plz (t : Nat) : Int := placeZ (pl I n t)
end
variable {I : Nat → It} {n : Nat}
theorem st_succ (t : Nat) : st I n (t + 1) = dec (lf I n t) (pl I n t) := rfl
theorem plz_eq {t i : Nat} : plz I n t = (i : Int) ↔ pl I n t = some i := placeZ_eq
theorem pl_lt {t i : Nat} (h : pl I n t = some i) : i < n := (pick_some h).1
theorem pl_left {t i : Nat} (h : pl I n t = some i) : 1 ≤ lf I n t i := by
  have h2 : (0 : Int) < ((lf I n t i : Nat) : Int) := (pick_some h).2.1
  omega
theorem pl_first {t i j : Nat} (h : pl I n t = some i) (hj : j < n) (hl : 1 ≤ lf I n t j) : fin (I i) t ≤ fin (I j) t := by
  have h1 : (0 : Int) < ((lf I n t j : Nat) : Int) := by omega
  rcases (pick_some h).2.2 j hj h1 with rfl | h2
  · exact Nat.le_refl _
  · have h3 : ((fin (I i) t : Nat) : Int) < ((fin (I j) t : Nat) : Int) ∨ ((fin (I i) t : Nat) : Int) = ((fin (I j) t : Nat) : Int) ∧ _ := h2
    omega
theorem pl_some {t j : Nat} (hj : j < n) (hl : 1 ≤ lf I n t j) : ∃ i, pl I n t = some i := by
  cases hp : pl I n t with
  | some i => exact ⟨i, rfl⟩
  | none =>
    have h1 := pick_none hp j hj
    exact absurd (show (0 : Int) < ((lf I n t j : Nat) : Int) by omega) h1
/-- Ahead of its start an item has nothing. -/
theorem lf_early {i : Nat} : ∀ t : Nat, t < (I i).s → st I n t i = 0 ∧ lf I n t i = 0
  | 0, h => ⟨rfl, by show (if Begins (I i) 0 then _ else _) = 0; rw [if_neg fun k => by have := k.1; omega]; rfl⟩
  | t + 1, h => by
    have h1 := (lf_early (i := i) t (by omega)).2
    have h2 : st I n (t + 1) i = 0 := by rw [st_succ]; unfold dec; split <;> omega
    refine ⟨h2, ?_⟩
    show (if Begins (I i) (t + 1) then _ else _) = 0
    rw [if_neg fun k => by have := k.1; omega]
    exact h2
theorem into_eq {x : It} (k r : Nat) (hr : r < x.p) : (x.s + k * x.p + r - x.s) % x.p = r := by
  rw [show x.s + k * x.p + r - x.s = r + x.p * k by rw [Nat.mul_comm]; omega, Nat.add_mul_mod_self_left, Nat.mod_eq_of_lt hr]
theorem fin_eq {x : It} (k r : Nat) (hr : r < x.p) : fin x (x.s + k * x.p + r) = x.s + k * x.p + x.p := by
  unfold fin
  rw [into_eq k r hr]
  omega
/-- What is left and what was had are the budget. -/
theorem lf_cnt {i : Nat} (hx : (I i).Ok) (k : Nat) : ∀ r, r < (I i).p → lf I n ((I i).s + k * (I i).p + r) i + cnt (plz I n) i ((I i).s + k * (I i).p) r = (I i).q
  | 0, hr => by
    have h1 := into_eq k 0 hr
    show (if Begins (I i) _ then _ else _) + 0 = _
    rw [if_pos ⟨by omega, h1⟩]
    rfl
  | r + 1, hr => by
    have h0 := lf_cnt hx k r (by omega)
    have h1 := into_eq k (r + 1) hr
    simp only [cnt]
    show (if Begins (I i) _ then _ else st I n ((I i).s + k * (I i).p + r + 1) i) + _ = _
    rw [if_neg fun e => by have := e.2; omega, st_succ]
    unfold dec
    by_cases e : pl I n ((I i).s + k * (I i).p + r) = some i
    · have := pl_left e
      rw [if_pos e, if_pos (plz_eq.2 e)]
      omega
    · rw [if_neg e, if_neg fun c => e (plz_eq.1 c)]
      omega
theorem cnt_le_q {i : Nat} (hx : (I i).Ok) (k : Nat) : ∀ r, r ≤ (I i).p → cnt (plz I n) i ((I i).s + k * (I i).p) r ≤ (I i).q
  | 0, _ => Nat.zero_le _
  | r + 1, hr => by
    have h0 := lf_cnt (n := n) hx k r (by omega)
    simp only [cnt]
    by_cases e : pl I n ((I i).s + k * (I i).p + r) = some i
    · have := pl_left e
      rw [if_pos (plz_eq.2 e)]
      omega
    · rw [if_neg fun c => e (plz_eq.1 c)]
      omega
/-- Each time lies in a period, or ahead of the first. -/
theorem period {x : It} (hp : 1 ≤ x.p) (t : Nat) : t < x.s ∨ ∃ k r, r < x.p ∧ t = x.s + k * x.p + r := by
  by_cases h : t < x.s
  · exact .inl h
  · refine .inr ⟨(t - x.s) / x.p, (t - x.s) % x.p, Nat.mod_lt _ (by omega), ?_⟩
    have := Nat.div_add_mod (t - x.s) x.p
    rw [Nat.mul_comm] at this
    omega
/-- The least of those that are there. -/
theorem least {P : Nat → Prop} : ∀ a, P a → ∃ m, m ≤ a ∧ P m ∧ ∀ b, b < m → ¬ P b := by
  intro a
  induction a using Nat.strongRecOn with
  | ind a ih =>
    intro h
    by_cases h2 : ∃ b, b < a ∧ P b
    · obtain ⟨b, hb, hpb⟩ := h2
      obtain ⟨m, hm, h3, h4⟩ := ih b hb hpb
      exact ⟨m, by omega, h3, h4⟩
    · exact ⟨a, Nat.le_refl _, h, fun b hb k => h2 ⟨b, hb, k⟩⟩
/-- Horn: where a period is missed, a stretch that ends with it asks for more than it has. -/
theorem miss_dem (hI : ∀ i, (I i).Ok) {i k : Nat} (hi : i < n) (hm : cnt (plz I n) i ((I i).s + k * (I i).p) (I i).p < (I i).q) :
    ∃ a, a ≤ (I i).s + k * (I i).p + (I i).p ∧ (I i).s + k * (I i).p + (I i).p - a < sumN (fun j => dem (I j) a ((I i).s + k * (I i).p + (I i).p)) n := by
  have hP : ∀ j, 1 ≤ (I j).p := fun j => by have := hI j; unfold It.Ok at this; omega
  obtain ⟨c, hc⟩ : ∃ c, c = (I i).s + k * (I i).p := ⟨_, rfl⟩
  obtain ⟨d, hd⟩ : ∃ d, d = c + (I i).p := ⟨_, rfl⟩
  rw [← hc] at hm ⊢
  rw [← hd]
  -- the missed item is ready all along
  have hready : ∀ t, c ≤ t → t < d → 1 ≤ lf I n t i := fun t h1 h2 => by
    have h3 := lf_cnt (n := n) (hI i) k (t - c) (by omega)
    rw [← hc, show c + (t - c) = t by omega] at h3
    have h4 := cnt_mono (plz I n) i c (show t - c ≤ (I i).p by omega)
    omega
  have hfini : ∀ t, c ≤ t → t < d → fin (I i) t = d := fun t h1 h2 => by
    have := fin_eq (x := I i) k (t - c) (by omega)
    rw [← hc, show c + (t - c) = t by omega] at this
    omega
  -- the stretch
  obtain ⟨a, ha, hbusy, hmin⟩ := least (P := fun a => a ≤ d ∧ ∀ t, a ≤ t → t < d → ∃ j, pl I n t = some j ∧ fin (I j) t ≤ d) d ⟨Nat.le_refl _, fun t h1 h2 => by omega⟩
  obtain ⟨had, hbusy⟩ := hbusy
  have hbefore : ∀ t, t + 1 = a → ¬ ∃ j, pl I n t = some j ∧ fin (I j) t ≤ d := fun t ht hj => hmin t (by omega) ⟨by omega, fun u h1 h2 => by
    by_cases e : u = t
    · subst e; exact hj
    · exact hbusy u (by omega) h2⟩
  -- what was there ahead of the stretch, with its end within, has nothing left
  have hnone : ∀ t j, t + 1 = a → j < n → fin (I j) t ≤ d → lf I n t j = 0 := fun t j ht hj hf => by
    apply Classical.byContradiction
    intro h0
    obtain ⟨g, hg⟩ := pl_some (I := I) (n := n) (t := t) hj (by omega)
    have := pl_first hg hj (by omega)
    exact hbefore t ht ⟨g, hg, Nat.le_trans this hf⟩
  have hac : a ≤ c := by
    apply Classical.byContradiction
    intro h
    have h1 := hready (a - 1) (by omega) (by omega)
    have h2 := hnone (a - 1) i (by omega) hi (by rw [hfini (a - 1) (by omega) (by omega)]; exact Nat.le_refl _)
    omega
  -- a tick of the stretch is of a period that lies in it
  have hin : ∀ j, j < n → ∀ t, a ≤ t → t < d → plz I n t = (j : Int) → ∃ m r, r < (I j).p ∧ t = (I j).s + m * (I j).p + r ∧ a ≤ (I j).s + m * (I j).p ∧ (I j).s + m * (I j).p + (I j).p ≤ d := fun j hj t h1 h2 h3 => by
    have hp := plz_eq.1 h3
    obtain ⟨j2, h4, h5⟩ := hbusy t h1 h2
    rw [hp] at h4
    cases h4
    have h6 := pl_left hp
    rcases period (hP j) t with h7 | ⟨m, r, hr, rfl⟩
    · have := (lf_early (n := n) t h7).2; omega
    · rw [fin_eq (x := I j) m r hr] at h5
      refine ⟨m, r, hr, rfl, ?_, h5⟩
      apply Classical.byContradiction
      intro h8
      have h9 := hnone (a - 1) j (by omega) hj (by
        have h10 := fin_eq (x := I j) m (a - 1 - ((I j).s + m * (I j).p)) (by omega)
        rw [show (I j).s + m * (I j).p + (a - 1 - ((I j).s + m * (I j).p)) = a - 1 by omega] at h10
        omega)
      have h11 := lf_cnt (n := n) (hI j) m (a - 1 - ((I j).s + m * (I j).p)) (by omega)
      rw [show (I j).s + m * (I j).p + (a - 1 - ((I j).s + m * (I j).p)) = a - 1 by omega] at h11
      have h12 := lf_cnt (n := n) (hI j) m r hr
      have h13 := cnt_mono (plz I n) j ((I j).s + m * (I j).p) (show a - 1 - ((I j).s + m * (I j).p) ≤ r by omega)
      omega
  -- so each item has at most what it asks for there
  have hcnt : ∀ j, j < n → cnt (plz I n) j a (d - a) ≤ cnt (plz I n) j (bg (I j) a) (nin (I j) a d * (I j).p) := fun j hj => by
    have hb := bg_ge (I j) (hP j) a
    have h1 : cnt (plz I n) j a (min (bg (I j) a) d - a) = 0 := cnt_zero _ _ _ _ fun t t1 t2 t3 => by
      obtain ⟨m, r, hr, e, m1, m2⟩ := hin j hj t t1 (by omega) t3
      have h2 := bk_le (I j) (hP j) m1
      have h3 := Nat.mul_le_mul_right (I j).p h2
      unfold bg at t2
      omega
    by_cases hbd : d ≤ bg (I j) a
    · rw [show min (bg (I j) a) d = d by omega] at h1
      omega
    · rw [show min (bg (I j) a) d = bg (I j) a by omega] at h1
      have h4 : nin (I j) a d * (I j).p ≤ d - bg (I j) a := Nat.div_mul_le_self _ _
      have h5 : cnt (plz I n) j (bg (I j) a + nin (I j) a d * (I j).p) (d - bg (I j) a - nin (I j) a d * (I j).p) = 0 := cnt_zero _ _ _ _ fun t t1 t2 t3 => by
        obtain ⟨m, r, hr, e, m1, m2⟩ := hin j hj t (by omega) (by omega) t3
        have h6 := bk_le (I j) (hP j) m1
        obtain ⟨z, rfl⟩ := Nat.exists_eq_add_of_le h6
        have h7 : (I j).s + (bk (I j) a + z) * (I j).p = bg (I j) a + z * (I j).p := by unfold bg; rw [Nat.add_mul]; omega
        rw [h7] at e m2
        by_cases hz : z < nin (I j) a d
        · have h8 := Nat.mul_le_mul_right (I j).p (show z + 1 ≤ nin (I j) a d by omega)
          rw [Nat.add_mul] at h8
          omega
        · have := nin_ge (I j) (hP j) (a := a) (b := d) (j := z) (by omega)
          omega
      rw [show d - a = (bg (I j) a - a) + (nin (I j) a d * (I j).p + (d - bg (I j) a - nin (I j) a d * (I j).p)) by omega, cnt_add, cnt_add, h1, show a + (bg (I j) a - a) = bg (I j) a by omega, h5]
      omega
  have hrow : ∀ (j : Nat) (m : Nat), cnt (plz I n) j (bg (I j) a + m * (I j).p) (I j).p ≤ (I j).q := fun (j m : Nat) => by
    rw [show bg (I j) a + m * (I j).p = (I j).s + (bk (I j) a + m) * (I j).p by unfold bg; rw [Nat.add_mul]; omega]
    exact cnt_le_q (hI j) _ _ (Nat.le_refl _)
  refine ⟨a, had, ?_⟩
  have hall := sum_cnt_eq (plz I n) n a (d - a) fun t h1 h2 => by
    obtain ⟨j, hj, _⟩ := hbusy t h1 (by omega)
    rw [plz_eq.2 hj]
    have := pl_lt hj
    omega
  have hlt : sumN (fun j => cnt (plz I n) (j : Nat) a (d - a)) n < sumN (fun j => dem (I j) a d) n := by
    refine sumN_lt n (fun j hj => ?_) ⟨i, hi, ?_⟩
    · refine Nat.le_trans (hcnt j hj) ?_
      have := cnt_rows_le (plz I n) j (bg (I j) a) (I j).p (I j).q (nin (I j) a d) fun m _ => hrow j m
      unfold dem
      rw [Nat.mul_comm (I j).q]
      exact this
    · have h1 := bk_le (I i) (hP i) (show a ≤ (I i).s + k * (I i).p by omega)
      obtain ⟨z, hz⟩ := Nat.exists_eq_add_of_le h1
      have h2 : c = bg (I i) a + z * (I i).p := by rw [hc, hz]; unfold bg; rw [Nat.add_mul]; omega
      have h3 : nin (I i) a d = z + 1 := by
        have h4 : z < nin (I i) a d := by
          apply Classical.byContradiction
          intro h5
          have := nin_ge (I i) (hP i) (a := a) (b := d) (j := z) (by omega)
          omega
        have h6 : ¬ z + 1 < nin (I i) a d := fun h7 => by
          have := nin_le (I i) (hP i) h7
          rw [Nat.add_mul] at this
          have := hP i
          omega
        omega
      refine Nat.lt_of_le_of_lt (hcnt i hi) ?_
      have h5 := cnt_rows_le (plz I n) i (bg (I i) a) (I i).p (I i).q z fun m _ => hrow i m
      unfold dem
      rw [h3, Nat.add_mul, cnt_add, Nat.mul_add, Nat.mul_comm (I i).q z, ← h2, Nat.one_mul, Nat.mul_one]
      omega
  rw [hall] at hlt
  exact hlt
/-- What is missed in the plan by first ends, among the first N ticks. -/
theorem edf_meets (hI : ∀ i, (I i).Ok) {N : Nat} (hd : ∀ a b, a ≤ b → b ≤ N → sumN (fun j => dem (I j) a b) n ≤ b - a) : Meets I n N (plz I n) := fun i hi k hk => by
  apply Classical.byContradiction
  intro h
  obtain ⟨a, ha, hlt⟩ := miss_dem hI hi (k := k) (by omega)
  have := hd a _ ha hk
  omega
/-- Dertouzos: if any plan misses none, this one does not. -/
theorem edf_best (hI : ∀ i, (I i).Ok) {N : Nat} {f : Nat → Int} (h : Meets I n N f) : Meets I n N (plz I n) :=
  edf_meets hI fun _ _ hab hb => meets_dem hI h hab hb
/-- Each period has no more than its budget. -/
theorem edf_exact (hI : ∀ i, (I i).Ok) {N : Nat} (h : Meets I n N (plz I n)) {i k : Nat} (hi : i < n) (hk : (I i).s + k * (I i).p + (I i).p ≤ N) : cnt (plz I n) i ((I i).s + k * (I i).p) (I i).p = (I i).q :=
  Nat.le_antisymm (cnt_le_q (hI i) k _ (Nat.le_refl _)) (h i hi k hk)
end Edf
end Go.Proofs.Ytfahpjilgdlhiaa
