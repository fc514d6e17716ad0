/- The document's kinds and Found at every tree; what is found beside the program's errors; no condition. -/
import Derived.Test.YtlnamkplbikcjaaDoorYMany
namespace Go.Proofs.YtlnamkplbikcjaaDoor
open Go.RowKit Ft

namespace Ft
/-- May it be what is asked for? -/
def kindsB (k c : Int) : Bool := k == c || (c == 2 && k == 6) || (c == 3 && k == 7)
/-- The first one of a kind. -/
def Dt.fnd (c : Int) : Dt → Option Dt
  | .nil => none
  | .mk k op h n t m a b =>
    if kindsB k c = true then some (.mk k op h n t m a b)
    else if k = 2 ∨ k = 3 then (if 0 < m then a.fnd c else none)
    else if k = 4 then (match (if 0 < m then a.fnd c else none) with | some x => some x | none => if 1 < m then b.fnd c else none)
    else none
theorem Dt.fnd_eq (d : Dt) (c : Int) (hc : c = 1 ∨ c = 2 ∨ c = 3) : d.fnd c = if kindsB d.k c = true then some d
    else if d.k = 2 ∨ d.k = 3 then d.kid0.fnd c
    else if d.k = 4 then (match d.kid0.fnd c with | some x => some x | none => d.kid1.fnd c)
    else none := by
  cases d with
  | nil => rcases hc with rfl | rfl | rfl <;> rfl
  | mk k op h n t m a b =>
    have e0 : (if 0 < m then a.fnd c else none) = (if 0 < m then a else .nil : Dt).fnd c := by split <;> rfl
    have e1 : (if 1 < m then b.fnd c else none) = (if 1 < m then b else .nil : Dt).fnd c := by split <;> rfl
    rw [Dt.fnd, e0, e1]
    rfl
/-- What is asked for, as errors.As is asked. -/
def kOf' (c : Int) : Kd := if c = 1 then .num else if c = 2 then .flt else .plc
theorem kinds_yes {d : Dt} {c : Int} (hc : c = 1 ∨ c = 2 ∨ c = 3) (h : kindsB d.k c = true) : d.toE.fnd (kOf' c) = some d.toE := by
  rw [Dt.toE_eq]
  unfold kindsB at h
  rcases hc with rfl | rfl | rfl
  · have hk : d.k = 1 := by simpa using h
    rw [if_pos hk]; rfl
  · have hk : d.k = 2 ∨ d.k = 6 := by simpa using h
    rcases hk with hk | hk <;> rw [hk] <;> rfl
  · have hk : d.k = 3 ∨ d.k = 7 := by simpa using h
    rcases hk with hk | hk <;> rw [hk] <;> rfl
theorem toE_2 {d : Dt} (h : d.k = 2) : d.toE = .fault d.op d.h d.kid0.toE := by rw [Dt.toE_eq, h]; rfl
theorem toE_3 {d : Dt} (h : d.k = 3) : d.toE = .place d.n d.kid0.toE := by rw [Dt.toE_eq, h]; rfl
theorem toE_4 {d : Dt} (h : d.k = 4) : d.toE = .pair d.kid0.toE d.kid1.toE := by rw [Dt.toE_eq, h]; rfl
theorem fnd_gen (d : Dt) (c : Int) (hc : c = 1 ∨ c = 2 ∨ c = 3) (h0 : d.kid0.toE.fnd (kOf' c) = (d.kid0.fnd c).map Dt.toE) (h1 : d.kid1.toE.fnd (kOf' c) = (d.kid1.fnd c).map Dt.toE) : d.toE.fnd (kOf' c) = (d.fnd c).map Dt.toE := by
  rw [d.fnd_eq c hc]
  by_cases hk : kindsB d.k c = true
  · rw [if_pos hk, kinds_yes hc hk]; rfl
  rw [if_neg hk]
  have hkb : ¬ (d.k = c ∨ (c = 2 ∧ d.k = 6) ∨ (c = 3 ∧ d.k = 7)) := by
    intro h
    apply hk
    unfold kindsB
    rcases h with h | ⟨h, h2⟩ | ⟨h, h2⟩
    · rw [h]; simp
    · rw [h, h2]; rfl
    · rw [h, h2]; rfl
  by_cases k2 : d.k = 2
  · rw [if_pos (.inl k2), toE_2 k2, ← h0]
    rcases hc with rfl | rfl | rfl
    · rfl
    · exact absurd (.inl k2) hkb
    · rfl
  by_cases k3 : d.k = 3
  · rw [if_pos (.inr k3), toE_3 k3, ← h0]
    rcases hc with rfl | rfl | rfl
    · rfl
    · rfl
    · exact absurd (.inl k3) hkb
  rw [if_neg (by omega)]
  by_cases k4 : d.k = 4
  · rw [if_pos k4, toE_4 k4]
    unfold Er.fnd
    rw [h0, h1]
    cases d.kid0.fnd c <;> rfl
  rw [if_neg k4, Dt.toE_eq, if_neg k2, if_neg k3, if_neg k4]
  have : ∀ (x : Er), (x = .num d.n ∧ c ≠ 1) ∨ (x = .nF ∧ c ≠ 2) ∨ (x = .nP ∧ c ≠ 3) ∨ x = .odd d.t ∨ x = .nQ ∨ x = .nil → x.fnd (kOf' c) = none := by
    intro x hx
    rcases hc with rfl | rfl | rfl <;> rcases hx with ⟨rfl, h⟩ | ⟨rfl, h⟩ | ⟨rfl, h⟩ | rfl | rfl | rfl <;> first | rfl | exact absurd rfl h
  refine (this _ ?_).trans rfl
  by_cases k1 : d.k = 1
  · rw [if_pos k1]; exact .inl ⟨rfl, fun h => hkb (.inl (by rw [k1, h]))⟩
  rw [if_neg k1]
  by_cases k5 : d.k = 5
  · rw [if_pos k5]; exact .inr (.inr (.inr (.inl rfl)))
  rw [if_neg k5]
  by_cases k6 : d.k = 6
  · rw [if_pos k6]; exact .inr (.inl ⟨rfl, fun h => hkb (.inr (.inl ⟨h, k6⟩))⟩)
  rw [if_neg k6]
  by_cases k7 : d.k = 7
  · rw [if_pos k7]; exact .inr (.inr (.inl ⟨rfl, fun h => hkb (.inr (.inr ⟨h, k7⟩))⟩))
  rw [if_neg k7]
  by_cases k8 : d.k = 8
  · rw [if_pos k8]; exact .inr (.inr (.inr (.inr (.inl rfl))))
  rw [if_neg k8]
  exact .inr (.inr (.inr (.inr (.inr rfl))))
theorem fnd_same (c : Int) (hc : c = 1 ∨ c = 2 ∨ c = 3) : ∀ (d : Dt), d.toE.fnd (kOf' c) = (d.fnd c).map Dt.toE := by
  have hnil : (Dt.toE .nil).fnd (kOf' c) = (Dt.nil.fnd c).map Dt.toE := rfl
  intro d
  induction d with
  | nil => exact hnil
  | mk k op h n t m a b iha ihb =>
    refine fnd_gen _ c hc ?_ ?_
    · rw [Dt.kid0_mk]
      by_cases hm : 0 < m
      · rw [if_pos hm]; exact iha
      · rw [if_neg hm]; exact hnil
    · rw [Dt.kid1_mk]
      by_cases hm : 1 < m
      · rw [if_pos hm]; exact ihb
      · rw [if_neg hm]; exact hnil
theorem fnd_kind (c : Int) (hc : c = 1 ∨ c = 2 ∨ c = 3) : ∀ (d x : Dt), d.fnd c = some x → kindsB x.k c = true := by
  intro d
  induction d with
  | nil => intro x h; cases h
  | mk k op h n t m a b iha ihb =>
    intro x hx
    unfold Dt.fnd at hx
    by_cases hk : kindsB k c = true
    · rw [if_pos hk] at hx; cases hx; exact hk
    rw [if_neg hk] at hx
    by_cases hm0 : 0 < m
    · rw [if_pos hm0] at hx
      by_cases hk2 : k = 2 ∨ k = 3
      · rw [if_pos hk2] at hx; exact iha x hx
      rw [if_neg hk2] at hx
      by_cases hk4 : k = 4
      · rw [if_pos hk4] at hx
        cases ha : a.fnd c with
        | some y => rw [ha] at hx; exact iha x (by rw [ha]; exact hx)
        | none =>
          rw [ha] at hx
          by_cases hm1 : 1 < m
          · rw [if_pos hm1] at hx; exact ihb x hx
          · rw [if_neg hm1] at hx; cases hx
      · rw [if_neg hk4] at hx; cases hx
    · rw [if_neg hm0] at hx
      by_cases hk2 : k = 2 ∨ k = 3
      · rw [if_pos hk2] at hx; cases hx
      rw [if_neg hk2] at hx
      by_cases hk4 : k = 4
      · rw [if_pos hk4] at hx
        by_cases hm1 : 1 < m
        · exact absurd hm1 (by omega)
        · rw [if_neg hm1] at hx; cases hx
      · rw [if_neg hk4] at hx; cases hx
end Ft
end Go.Proofs.YtlnamkplbikcjaaDoor
