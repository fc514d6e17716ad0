/- Plain mathematics for stage 1: decimal texts of units stand in the order of the units; the digits that the document's reading finds are theirs. Nothing of the program. -/
import Derived.Test.YtlhgopdlpjmbhaaDoorMath
import Derived.Laws.Strings
namespace Go.Proofs.YtlhgopdlpjmbhaaDoor
open Go.RowKit

/-! ### The order -/
theorem dgB_lt {a b : Nat} (hb : b ≤ 9) (h : a < b) : (dgB a < dgB b) := by
  rw [UInt8.lt_iff_toNat_lt, dgB_toNat a (by omega), dgB_toNat b hb]; omega
theorem dgB_ne_self (a : Nat) : ¬ (dgB a < dgB a) := by rw [UInt8.lt_iff_toNat_lt]; omega

theorem less_cons_lt {a b : UInt8} (x y : List UInt8) (h : a < b) : Op.bytesLess (a :: x) (b :: y) = true := by simp [Op.bytesLess, h]
theorem less_cons_eq (a : UInt8) (x y : List UInt8) : Op.bytesLess (a :: x) (a :: y) = Op.bytesLess x y := by
  have : ¬ a < a := by rw [UInt8.lt_iff_toNat_lt]; omega
  simp [Op.bytesLess, this]
theorem less_self : ∀ x : List UInt8, Op.bytesLess x x = false
  | [] => rfl
  | a :: x => by rw [less_cons_eq]; exact less_self x
theorem less_nil (x : List UInt8) : Op.bytesLess x [] = false := by cases x <;> rfl
theorem less_asymm : ∀ x y : List UInt8, Op.bytesLess x y = true → Op.bytesLess y x = false
  | x, [], h => by rw [less_nil] at h; cases h
  | [], b :: y, _ => rfl
  | a :: x, b :: y, h => by
    by_cases e : a = b
    · subst e; rw [less_cons_eq] at h ⊢; exact less_asymm x y h
    · simp only [Op.bytesLess, Bool.or_eq_true, decide_eq_true_eq, Bool.and_eq_true, beq_iff_eq] at h
      have hab : a < b := by rcases h with h | h; exact h; exact absurd h.1 e
      have h1 : ¬ b < a := by rw [UInt8.lt_iff_toNat_lt] at hab ⊢; omega
      have h2 : (b == a) = false := by simpa using fun h => e h.symm
      simp [Op.bytesLess, h1, h2]

theorem md_lt (r : Nat) : r * 10 % 1048576 < 1048576 := Nat.mod_lt _ (by omega)
theorem tail_mono : ∀ (f r t : Nat), r < t → t < 1048576 → Dv f t → Op.bytesLess (tailD f r) (tailD f t) = true
  | 0, r, t, h, ht, hd => by have := Dv_zero hd ht; omega
  | f + 1, r, t, h, ht, hd => by
    rw [tailD_pos f t (by omega)]
    by_cases hr : r = 0
    · subst hr; rw [tailD_zero]; rfl
    · rw [tailD_pos f r (by omega)]
      by_cases hq : r * 10 / 1048576 = t * 10 / 1048576
      · rw [hq, less_cons_eq]
        exact tail_mono f _ _ (by omega) (md_lt t) (Dv_step hd)
      · exact less_cons_lt _ _ (dgB_lt (by omega) (by omega))

theorem dec_mono {a b : Nat} (h : a < b) (hb : b ≤ 1048576) : Op.bytesLess (decL a) (decL b) = true := by
  unfold decL
  by_cases h1 : b = 1048576
  · subst h1
    exact less_cons_lt _ _ (dgB_lt (by omega) (by omega))
  · have e1 : a / 1048576 = 0 := by omega
    have e2 : b / 1048576 = 0 := by omega
    have e3 : a % 1048576 = a := by omega
    have e4 : b % 1048576 = b := by omega
    rw [e1, e2, e3, e4, less_cons_eq, if_neg (show ¬ b = 0 by omega)]
    by_cases h0 : a = 0
    · rw [if_pos h0]; rfl
    · rw [if_neg h0, less_cons_eq]
      exact tail_mono 20 a b h (by omega) (Dv_start b)

/-- A text of units is not below that of others, just where the units are not. -/
theorem dec_ge (a b : Nat) (ha : a ≤ 1048576) (hb : b ≤ 1048576) : (!Op.bytesLess (decL a) (decL b)) = decide (b ≤ a) := by
  by_cases h : a < b
  · rw [dec_mono h hb]; simp; omega
  · have h2 : Op.bytesLess (decL a) (decL b) = false := by
      by_cases e : a = b
      · subst e; exact less_self _
      · exact less_asymm _ _ (dec_mono (by omega) ha)
    rw [h2]; simp; omega
theorem dec_inj {a b : Nat} (ha : a ≤ 1048576) (hb : b ≤ 1048576) (h : decL a = decL b) : a = b := by
  by_cases h1 : a < b
  · have := dec_mono h1 hb; rw [h, less_self] at this; cases this
  · by_cases h2 : b < a
    · have := dec_mono h2 ha; rw [h, less_self] at this; cases this
    · omega

/-! ### The digits -/
def val : List Nat → Nat
  | [] => 0
  | d :: t => d * 10 ^ t.length + val t

theorem val_lt : ∀ ds : List Nat, (∀ d ∈ ds, d ≤ 9) → val ds < 10 ^ ds.length
  | [], _ => by simp [val]
  | d :: t, h => by
    have h1 := val_lt t fun x hx => h x (List.mem_cons_of_mem _ hx)
    have h2 : d ≤ 9 := h d List.mem_cons_self
    have h3 : d * 10 ^ t.length ≤ 9 * 10 ^ t.length := Nat.mul_le_mul_right _ h2
    simp only [val, List.length_cons, Nat.pow_succ]
    omega

theorem zeros : ∀ t : List Nat, val t = 0 → t = List.replicate t.length 0
  | [], _ => rfl
  | d :: t, hv => by
    simp only [val] at hv
    have hP : 0 < 10 ^ t.length := Nat.pow_pos (by omega)
    have h1 : d * 10 ^ t.length = 0 := by omega
    have hd : d = 0 := by
      rcases Nat.mul_eq_zero.1 h1 with h | h
      · exact h
      · omega
    have ht := zeros t (by omega)
    rw [List.length_cons, List.replicate_succ, ← ht, hd]
theorem val_pos {ds : List Nat} (h : ds ≠ []) (hl : ds.getLast? ≠ some 0) : 0 < val ds := by
  rcases Nat.eq_zero_or_pos (val ds) with h0 | h0
  · exfalso
    apply hl
    have hz := zeros ds h0
    have hlen : ds.length ≠ 0 := by simpa using h
    obtain ⟨n, hn⟩ : ∃ n, ds.length = n + 1 := ⟨ds.length - 1, by omega⟩
    rw [hz, hn, List.getLast?_replicate, if_neg (by omega)]
  · exact h0

/-- One digit of the long division, at whatever whole U. -/
theorem long_step (d r P V U : Nat) (hP : 0 < P) (hV : V < P) (hU : 0 < U) (h : (d * P + V) * U = r * (P * 10)) : ∃ q, r * 10 = d * U + q ∧ V * U = q * P ∧ q < U := by
  have e1 : d * U * P + V * U = r * 10 * P := by
    rw [Nat.add_mul, Nat.mul_right_comm d] at h
    rw [h, Nat.mul_comm P 10, Nat.mul_assoc]
  have hle0 : d * U * P ≤ r * 10 * P := by omega
  have hle : d * U ≤ r * 10 := Nat.le_of_mul_le_mul_right hle0 hP
  refine ⟨r * 10 - d * U, by omega, ?_, ?_⟩
  · rw [Nat.sub_mul]; omega
  · have h2 : (r * 10 - d * U) * P < U * P := by
      rw [Nat.sub_mul, show r * 10 * P - d * U * P = V * U by omega, Nat.mul_comm U]
      exact Nat.mul_lt_mul_of_pos_right hV hU
    exact Nat.lt_of_mul_lt_mul_right h2
theorem long_back (d r q P V U : Nat) (e : r * 10 = d * U + q) (h : V * U = q * P) : (d * P + V) * U = r * (P * 10) := by
  rw [Nat.add_mul, h, Nat.mul_right_comm, ← Nat.add_mul, ← e, Nat.mul_assoc, Nat.mul_comm 10]

theorem div_of (r d q : Nat) (e : r * 10 = d * 1048576 + q) (h : q < 1048576) : r * 10 / 1048576 = d ∧ r * 10 % 1048576 = q := by omega

theorem ne_of (r d q : Nat) (e : r * 10 = d * 1048576 + q) (hq : q = 0) (hr : ¬ r = 0) : d ≠ 0 := by
  intro h
  rw [h, hq, Nat.zero_mul, Nat.add_zero] at e
  rcases Nat.mul_eq_zero.1 e with h | h
  · exact hr h
  · exact absurd h (by decide)
theorem ex_div (x U : Nat) (hU : 0 < U) : ∃ d q, x = d * U + q ∧ q < U :=
  ⟨x / U, x % U, by rw [Nat.mul_comm]; exact (Nat.div_add_mod x U).symm, Nat.mod_lt _ hU⟩

theorem digits_of (ds : List Nat) : ∀ (f r : Nat), (∀ d ∈ ds, d ≤ 9) → ds.getLast? ≠ some 0 → val ds * 1048576 = r * 10 ^ ds.length → ds.length ≤ f → tailD f r = ds.map dgB := by
  induction ds with
  | nil =>
    intro f r _ _ hv _
    have hr : r = 0 := by
      simp only [val, List.length_nil, Nat.pow_zero, Nat.zero_mul, Nat.mul_one] at hv
      exact hv.symm
    rw [hr, tailD_zero]
    rfl
  | cons d t ih =>
    intro f r h9 hl hv hf
    have hpos := val_pos (List.cons_ne_nil d t) hl
    have hvt := val_lt t fun x hx => h9 x (List.mem_cons_of_mem _ hx)
    have hP : 0 < 10 ^ t.length := Nat.pow_pos (by omega)
    have hr : 0 < r := by
      rcases Nat.eq_zero_or_pos r with h0 | h0
      · rw [h0, Nat.zero_mul] at hv; omega
      · exact h0
    rw [val, List.length_cons, Nat.pow_succ] at hv
    obtain ⟨q, e1, e2, e3⟩ := long_step d r _ _ 1048576 hP hvt (by omega) hv
    obtain ⟨hdiv, hmod⟩ := div_of r d q e1 e3
    cases f with
    | zero => simp at hf
    | succ f =>
      rw [tailD_pos f r hr, hdiv, hmod, ih f q (fun x hx => h9 x (List.mem_cons_of_mem _ hx)) ?_ e2 (by simpa using hf)]
      · rfl
      · cases t with
        | nil => simp
        | cons x y => rw [List.getLast?_cons_cons] at hl; exact hl

theorem tail_digits (f : Nat) : ∀ r : Nat, r < 1048576 → Dv f r → ∃ ds : List Nat, tailD f r = ds.map dgB ∧ (∀ d ∈ ds, d ≤ 9) ∧ ds.length ≤ f ∧ ds.getLast? ≠ some 0 ∧ val ds * 1048576 = r * 10 ^ ds.length ∧ (0 < r → ds ≠ []) := by
  induction f with
  | zero =>
    intro r hr hd
    have h0 := Dv_zero hd hr
    exact ⟨[], by rw [h0]; rfl, by simp, by simp, by simp, by rw [h0, val]; simp, by omega⟩
  | succ f ih =>
    intro r hr hd
    by_cases h0 : r = 0
    · exact ⟨[], by rw [h0, tailD_zero]; rfl, by simp, by simp, by simp, by rw [h0, val]; simp, by omega⟩
    · obtain ⟨ds, h1, h2, h3, h4, h5, h6⟩ := ih (r * 10 % 1048576) (md_lt r) (Dv_step hd)
      obtain ⟨d, q, e, hq⟩ := ex_div (r * 10) 1048576 (by omega)
      have h9 : d ≤ 9 := by omega
      obtain ⟨hdiv, hmod⟩ := div_of r d q e hq
      rw [hmod] at h1 h5 h6
      refine ⟨d :: ds, ?_, ?_, ?_, ?_, ?_, ?_⟩
      · rw [tailD_pos f r (by omega), hdiv, hmod, h1]; rfl
      · intro x hx
        rcases List.mem_cons.1 hx with h | h
        · omega
        · exact h2 x h
      · simp; omega
      · cases hds : ds with
        | nil =>
          simp only [hds, val, List.length_nil, Nat.pow_zero, Nat.zero_mul, Nat.mul_one] at h5
          have hd0 := ne_of r d q e h5.symm h0
          rw [List.getLast?_singleton]
          exact fun h => hd0 (Option.some.inj h)
        | cons x y => rw [hds] at h4; rw [List.getLast?_cons_cons]; exact h4
      · rw [val, List.length_cons, Nat.pow_succ]
        exact long_back d r q _ _ _ e h5
      · simp
end Go.Proofs.YtlhgopdlpjmbhaaDoor
