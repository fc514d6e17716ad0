/- Earliest deadline first as plain mathematics: the plan that goes by the first end misses a period only where some stretch asks for more than it has; where shares are at most the whole none does; no condition but those that each row names. -/
import Derived.Test.YtfahpjilgdlhiaaRows
namespace Go.Proofs.Ytfahpjilgdlhiaa
namespace Edf
/-- An item: Q ticks in each period of P, from S on. -/
structure It where
  q : Nat
  p : Nat
  s : Nat
def It.Ok (x : It) : Prop := 1 ≤ x.q ∧ x.q ≤ x.p
/-- The sum of the first n of a row. -/
def sumN (f : Nat → Nat) : Nat → Nat
  | 0 => 0
  | n + 1 => sumN f n + f n
theorem sumN_le {f g : Nat → Nat} : ∀ n, (∀ i, i < n → f i ≤ g i) → sumN f n ≤ sumN g n
  | 0, _ => Nat.le_refl _
  | n + 1, h => Nat.add_le_add (sumN_le n fun i hi => h i (by omega)) (h n (by omega))
theorem sumN_lt {f g : Nat → Nat} : ∀ n, (∀ i, i < n → f i ≤ g i) → (∃ i, i < n ∧ f i < g i) → sumN f n < sumN g n
  | 0, _, h => by obtain ⟨i, hi, _⟩ := h; omega
  | n + 1, h, ⟨i, hi, hl⟩ => by
    by_cases e : i = n
    · subst e
      exact Nat.add_lt_add_of_le_of_lt (sumN_le _ fun j hj => h j (by omega)) hl
    · exact Nat.add_lt_add_of_lt_of_le (sumN_lt n (fun j hj => h j (by omega)) ⟨i, by omega, hl⟩) (h n (by omega))
theorem sumN_mul (f : Nat → Nat) (c : Nat) : ∀ n, sumN (fun i => f i * c) n = sumN f n * c
  | 0 => by simp [sumN]
  | n + 1 => by simp only [sumN]; rw [sumN_mul f c n, Nat.add_mul]
theorem sumN_add (f g : Nat → Nat) : ∀ n, sumN (fun i => f i + g i) n = sumN f n + sumN g n
  | 0 => rfl
  | n + 1 => by simp only [sumN]; rw [sumN_add f g n]; omega
theorem sumN_congr {f g : Nat → Nat} : ∀ n, (∀ i, i < n → f i = g i) → sumN f n = sumN g n
  | 0, _ => rfl
  | n + 1, h => by simp only [sumN]; rw [sumN_congr n fun i hi => h i (by omega), h n (by omega)]
theorem sumN_zero : ∀ n, sumN (fun _ => 0) n = 0
  | 0 => rfl
  | n + 1 => sumN_zero n
/-- How many of m ticks from a on a plan gives to the place i. -/
def cnt (f : Nat → Int) (i : Int) (a : Nat) : Nat → Nat
  | 0 => 0
  | m + 1 => cnt f i a m + if f (a + m) = i then 1 else 0
theorem cnt_add (f : Nat → Int) (i : Int) (a m : Nat) : ∀ k, cnt f i a (m + k) = cnt f i a m + cnt f i (a + m) k
  | 0 => rfl
  | k + 1 => by
    rw [← Nat.add_assoc]
    simp only [cnt]
    rw [cnt_add f i a m k, Nat.add_assoc a m k]
    omega
theorem cnt_mono (f : Nat → Int) (i : Int) (a : Nat) {m n : Nat} (h : m ≤ n) : cnt f i a m ≤ cnt f i a n := by
  obtain ⟨k, rfl⟩ := Nat.exists_eq_add_of_le h
  rw [cnt_add]
  omega
theorem cnt_zero (f : Nat → Int) (i : Int) (a : Nat) : ∀ m, (∀ t, a ≤ t → t < a + m → f t ≠ i) → cnt f i a m = 0
  | 0, _ => rfl
  | m + 1, h => by
    simp only [cnt]
    rw [cnt_zero f i a m fun t h1 h2 => h t h1 (by omega), if_neg (h (a + m) (by omega) (by omega))]
theorem cnt_congr {f g : Nat → Int} (i : Int) (a : Nat) : ∀ m, (∀ t, a ≤ t → t < a + m → f t = g t) → cnt f i a m = cnt g i a m
  | 0, _ => rfl
  | m + 1, h => by
    simp only [cnt]
    rw [cnt_congr i a m fun t h1 h2 => h t h1 (by omega), h (a + m) (by omega) (by omega)]
/-- Each tick is one place's at most. -/
theorem sum_one (z : Int) : ∀ n, sumN (fun i => if z = (i : Int) then 1 else 0) n = if 0 ≤ z ∧ z < n then 1 else 0
  | 0 => by simp only [sumN]; rw [if_neg (by omega)]
  | n + 1 => by
    simp only [sumN]
    rw [sum_one z n]
    by_cases h : z = (n : Int)
    · rw [if_pos h, if_neg (by omega), if_pos (by omega)]
    · rw [if_neg h]
      by_cases h2 : 0 ≤ z ∧ z < n
      · rw [if_pos h2, if_pos (by omega)]
      · rw [if_neg h2, if_neg (by omega)]
theorem sum_cnt_le (f : Nat → Int) (n a : Nat) : ∀ m, sumN (fun i => cnt f i a m) n ≤ m
  | 0 => Nat.le_of_eq (sumN_zero n)
  | m + 1 => by
    simp only [cnt]
    rw [sumN_add, sum_one]
    have := sum_cnt_le f n a m
    split <;> omega
theorem sum_cnt_eq (f : Nat → Int) (n a : Nat) : ∀ m, (∀ t, a ≤ t → t < a + m → 0 ≤ f t ∧ f t < n) → sumN (fun i => cnt f i a m) n = m
  | 0, _ => sumN_zero n
  | m + 1, h => by
    simp only [cnt]
    rw [sumN_add, sum_one, sum_cnt_eq f n a m fun t h1 h2 => h t h1 (by omega), if_pos (h (a + m) (by omega) (by omega))]
/-- The first beginning of a period, from a on. -/
def bk (x : It) (a : Nat) : Nat := (a - x.s + x.p - 1) / x.p
def bg (x : It) (a : Nat) : Nat := x.s + bk x a * x.p
/-- How many periods lie from a to b. -/
def nin (x : It) (a b : Nat) : Nat := (b - bg x a) / x.p
def dem (x : It) (a b : Nat) : Nat := x.q * nin x a b
theorem bg_ge (x : It) (hp : 1 ≤ x.p) (a : Nat) : a ≤ bg x a := by
  unfold bg bk
  have h1 := Nat.div_add_mod (a - x.s + x.p - 1) x.p
  have h2 := Nat.mod_lt (a - x.s + x.p - 1) (show x.p > 0 by omega)
  rw [Nat.mul_comm] at h1
  omega
theorem bk_le (x : It) (hp : 1 ≤ x.p) {a k : Nat} (h : a ≤ x.s + k * x.p) : bk x a ≤ k := by
  unfold bk
  have h1 : a - x.s + x.p - 1 < (k + 1) * x.p := by rw [Nat.add_mul]; omega
  have := (Nat.div_lt_iff_lt_mul (by omega)).2 h1
  omega
theorem bk_gt (x : It) (hp : 1 ≤ x.p) {a k : Nat} (h : k < bk x a) : x.s + k * x.p < a := by
  apply Classical.byContradiction
  intro hn
  have := bk_le x hp (a := a) (k := k) (by omega)
  omega
/-- Of the periods from a on, those that end by b. -/
theorem nin_le (x : It) (hp : 1 ≤ x.p) {a b j : Nat} (h : j < nin x a b) : bg x a + j * x.p + x.p ≤ b := by
  unfold nin at h
  have := (Nat.lt_div_iff_mul_lt (by omega)).1 h
  have h2 := Nat.div_add_mod (b - bg x a) x.p
  have h3 : (j + 1) * x.p ≤ (b - bg x a) / x.p * x.p := Nat.mul_le_mul_right _ (by omega)
  rw [Nat.mul_comm] at h2
  rw [Nat.add_mul] at h3
  omega
theorem nin_ge (x : It) (hp : 1 ≤ x.p) {a b j : Nat} (h : nin x a b ≤ j) : b < bg x a + j * x.p + x.p := by
  unfold nin at h
  have h2 := Nat.div_add_mod (b - bg x a) x.p
  have h4 := Nat.mod_lt (b - bg x a) (show x.p > 0 by omega)
  have h3 : (b - bg x a) / x.p * x.p ≤ j * x.p := Nat.mul_le_mul_right _ h
  rw [Nat.mul_comm] at h2
  omega
/-- Periods one behind the other. -/
theorem cnt_rows (f : Nat → Int) (i : Int) (b p c : Nat) : ∀ m, (∀ j, j < m → c ≤ cnt f i (b + j * p) p) → m * c ≤ cnt f i b (m * p)
  | 0, _ => by simp
  | m + 1, h => by
    have h1 := cnt_rows f i b p c m fun j hj => h j (by omega)
    have h2 := h m (by omega)
    rw [Nat.add_mul, Nat.add_mul, cnt_add, Nat.one_mul, Nat.one_mul]
    omega
theorem cnt_rows_le (f : Nat → Int) (i : Int) (b p c : Nat) : ∀ m, (∀ j, j < m → cnt f i (b + j * p) p ≤ c) → cnt f i b (m * p) ≤ m * c
  | 0, _ => by simp [cnt]
  | m + 1, h => by
    have h1 := cnt_rows_le f i b p c m fun j hj => h j (by omega)
    have h2 := h m (by omega)
    rw [Nat.add_mul, Nat.add_mul, cnt_add, Nat.one_mul, Nat.one_mul]
    omega
/-- A plan misses none of the periods that lie in its first N ticks. -/
def Meets (I : Nat → It) (n N : Nat) (f : Nat → Int) : Prop := ∀ i, i < n → ∀ k, (I i).s + k * (I i).p + (I i).p ≤ N → (I i).q ≤ cnt f i ((I i).s + k * (I i).p) (I i).p
/-- Whatever plan misses none: no stretch asks for more than it has. -/
theorem meets_dem {I : Nat → It} {n N : Nat} {f : Nat → Int} (hI : ∀ i, (I i).Ok) (h : Meets I n N f) {a b : Nat} (hab : a ≤ b) (hb : b ≤ N) : sumN (fun i => dem (I i) a b) n ≤ b - a := by
  refine Nat.le_trans (sumN_le (g := fun i => cnt f i a (b - a)) n fun i hi => ?_) (sum_cnt_le f n a (b - a))
  have hp : 1 ≤ (I i).p := by have := hI i; unfold It.Ok at this; omega
  by_cases h0 : nin (I i) a b = 0
  · show (I i).q * nin (I i) a b ≤ _
    rw [h0]; simp
  · have h1 := nin_le (I i) hp (a := a) (b := b) (j := nin (I i) a b - 1) (by omega)
    have h2 := bg_ge (I i) hp a
    have h3 : nin (I i) a b * (I i).p = (nin (I i) a b - 1) * (I i).p + (I i).p := by
      rw [← Nat.succ_mul]; congr 1; omega
    have h4 := cnt_rows f i (bg (I i) a) (I i).p (I i).q (nin (I i) a b) (fun j hj => by
      have h5 := nin_le (I i) hp hj
      have h6 : bg (I i) a + j * (I i).p = (I i).s + (bk (I i) a + j) * (I i).p := by unfold bg; rw [Nat.add_mul]; omega
      rw [h6] at h5 ⊢
      exact h i hi _ (by omega))
    have h7 : b - a = (bg (I i) a - a) + (nin (I i) a b * (I i).p + (b - bg (I i) a - nin (I i) a b * (I i).p)) := by omega
    show (I i).q * nin (I i) a b ≤ _
    rw [h7, cnt_add, cnt_add, Nat.mul_comm, show a + (bg (I i) a - a) = bg (I i) a by omega]
    omega
/-- Where shares are at most the whole, no stretch asks for more than it has. -/
theorem load_dem {I : Nat → It} {n U : Nat} (hI : ∀ i, (I i).Ok) (u : Nat → Nat) (hU : 0 < U) (hu : ∀ i, i < n → (I i).q * U ≤ u i * (I i).p) (hs : sumN u n ≤ U) {a b : Nat} : sumN (fun i => dem (I i) a b) n ≤ b - a := by
  have h1 : sumN (fun i => dem (I i) a b) n * U ≤ U * (b - a) := by
    rw [← sumN_mul]
    refine Nat.le_trans (sumN_le (g := fun i => u i * (b - a)) n fun i hi => ?_) ?_
    · show (I i).q * nin (I i) a b * U ≤ u i * (b - a)
      have hp : 1 ≤ (I i).p := by have := hI i; unfold It.Ok at this; omega
      have h2 : nin (I i) a b * (I i).p ≤ b - a := by
        have := Nat.div_mul_le_self (b - bg (I i) a) (I i).p
        have h3 := bg_ge (I i) hp a
        unfold nin
        omega
      calc (I i).q * nin (I i) a b * U = ((I i).q * U) * nin (I i) a b := by rw [Nat.mul_right_comm]
        _ ≤ (u i * (I i).p) * nin (I i) a b := Nat.mul_le_mul_right _ (hu i hi)
        _ = u i * (nin (I i) a b * (I i).p) := by rw [Nat.mul_assoc, Nat.mul_comm (I i).p]
        _ ≤ u i * (b - a) := Nat.mul_le_mul_left _ h2
    · rw [sumN_mul]
      exact Nat.mul_le_mul_right _ hs
  rw [Nat.mul_comm U] at h1
  exact Nat.le_of_mul_le_mul_right h1 hU
end Edf
end Go.Proofs.Ytfahpjilgdlhiaa
