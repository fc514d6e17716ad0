/- Which lists of claims load: plain mathematics; nothing of the program; no condition but those that each row names. -/
import Derived.Test.YtilbohjkkdkdiaaGMath
namespace Go.Proofs.Ytilbohjkkdkdiaa
open Go.RowKit

/-- May a claim be? -/
def may (c : Cl) : Prop := 0 ≤ c.s ∧ c.s < 64 ∧ 1 ≤ c.n ∧ c.n ≤ 1048576 ∧ 0 ≤ c.x ∧ c.x ≤ 1048576
instance (c : Cl) : Decidable (may c) := inferInstanceAs (Decidable (_ ∧ _ ∧ _ ∧ _ ∧ _ ∧ _))
/-- The first fault of claims behind a slot. -/
def scan : Int → List Cl → Int
  | _, [] => 0
  | last, c :: r => if may c then if c.s ≤ last then 270 else scan c.s r else 1
/-- The last slot of claims. -/
def lastS : Int → List Cl → Int
  | last, [] => last
  | _, c :: r => lastS c.s r
theorem lastS_snoc (c : Cl) : ∀ (L : List Cl) (a : Int), lastS a (L ++ [c]) = c.s
  | [], _ => rfl
  | _ :: r, _ => lastS_snoc c r _
theorem scan_append : ∀ (A B : List Cl) (a : Int), scan a A = 0 → scan a (A ++ B) = scan (lastS a A) B
  | [], _, _, _ => rfl
  | c :: r, B, a, h => by
    simp only [scan] at h
    by_cases h1 : may c
    · rw [if_pos h1] at h
      by_cases h2 : c.s ≤ a
      · rw [if_pos h2] at h; omega
      · rw [if_neg h2] at h
        simp only [List.cons_append, scan, lastS, if_pos h1, if_neg h2]
        exact scan_append r B c.s h
    · rw [if_neg h1] at h; omega
def loadE (L : List Cl) : Int := if scan (-1) L = 0 then if 1048576 < lsum L then 270 else 0 else scan (-1) L
theorem scan_vals : ∀ (L : List Cl) (a : Int), scan a L = 0 ∨ scan a L = 1 ∨ scan a L = 270
  | [], _ => .inl rfl
  | c :: r, a => by
    simp only [scan]
    by_cases h1 : may c
    · by_cases h2 : c.s ≤ a
      · simp [h1, h2]
      · simpa [h1, h2] using scan_vals r c.s
    · simp [h1]
/-- The book of the claims P, whose last slot is a. -/
structure Lod (f : Nat → Cl) (P : List Cl) (a : Int) : Prop where
  a0 : -1 ≤ a
  a1 : a < 64
  len : (P.length : Int) ≤ a + 1
  each : ∀ i, i < 64 → f i = zc ∨ ((f i).s = i ∧ 1 ≤ (f i).n ∧ (f i).n ≤ 1048576 ∧ 0 ≤ (f i).x ∧ (f i).x ≤ 1048576)
  above : ∀ i : Nat, a < (i : Int) → i < 64 → f i = zc
  ls : lst f 0 64 = P
  cnts : ∀ c ∈ P, 0 ≤ cnt c ∧ cnt c ≤ 1048576
theorem Lod.start : Lod (fun _ => zc) [] (-1) := ⟨by omega, by omega, by simp, fun _ _ => .inl rfl, fun _ _ _ => rfl, lst_new 0 64, fun c hc => by simp at hc⟩
theorem lst_zero {f : Nat → Cl} (a : Nat) : ∀ k, (∀ i, a ≤ i → i < a + k → f i = zc) → lst f a k = []
  | 0, _ => rfl
  | k + 1, h => by
    simp only [Go.Proofs.Ytilbohjkkdkdiaa.lst]
    rw [lst_zero a k (fun i h1 h2 => h i h1 (by omega)), h (a + k) (by omega) (by omega)]
    rfl
theorem Lod.step {f : Nat → Cl} {P : List Cl} {a : Int} (h : Lod f P a) {c : Cl} (hc : may c) (ha : a < c.s) : Lod (upd f c.s.toNat c) (P ++ [c]) c.s := by
  obtain ⟨h0, h1, h2, h3, h4, h5⟩ := hc
  obtain ⟨k, hk⟩ : ∃ k : Nat, c.s = k := ⟨c.s.toNat, by omega⟩
  have hk64 : k < 64 := by omega
  have hkt : c.s.toNat = k := by omega
  rw [hkt]
  refine ⟨by omega, by omega, by have := h.len; simp; omega, fun i hi => ?_, fun i hi hi2 => ?_, ?_, fun x hx => ?_⟩
  · by_cases e : i = k
    · subst e; rw [upd_same]; exact .inr ⟨hk, h2, h3, h4, h5⟩
    · rw [upd_other _ _ _ _ e]; exact h.each i hi
  · rw [upd_other _ _ _ _ (by omega)]; exact h.above i (by omega) hi2
  · rw [lst_upd f k c hk64]
    have e1 : lst f (k + 1) (63 - k) = [] := lst_zero (k + 1) (63 - k) (fun i h1 h2 => h.above i (by omega) (by omega))
    have e2 : lst f 0 64 = lst f 0 k := by
      rw [lst_split f k hk64, e1, h.above k (by omega) hk64]; simp [one, zc]
    rw [e1, ← e2, h.ls, one, if_pos h2]
    simp
  · rcases List.mem_append.1 hx with k | k
    · exact h.cnts x k
    · simp at k; subst k; exact cnt_in h2 h3 h4 h5
theorem each_lsum {f : Nat → Cl} (h : ∀ i, i < 64 → f i = zc ∨ ((f i).s = i ∧ 1 ≤ (f i).n ∧ (f i).n ≤ 1048576 ∧ 0 ≤ (f i).x ∧ (f i).x ≤ 1048576)) : ∀ k, k ≤ 64 → lsum (lst f 0 k) = sumTo f k
  | 0, _ => rfl
  | k + 1, hk => by
    simp only [lst, sumTo, lsum_append, each_lsum h k (by omega), Nat.zero_add]
    rcases h k (by omega) with e | ⟨_, hn, _⟩
    · rw [e]; simp [one, zc, lsum, cnt]
    · simp only [one, if_pos hn, lsum]; omega
theorem Lod.sum {f : Nat → Cl} {P : List Cl} {a : Int} (h : Lod f P a) : sumTo f 64 = lsum P := by rw [← each_lsum h.each 64 (by omega), h.ls]
theorem Lod.small {f : Nat → Cl} {P : List Cl} {a : Int} (h : Lod f P a) : Small f := small_of h.each
theorem Lod.good {f : Nat → Cl} {P : List Cl} {a : Int} (h : Lod f P a) (hs : lsum P ≤ 1048576) : Good f := ⟨h.each, by rw [h.sum]; exact hs⟩
/-- A list that passes has a book. -/
theorem lod_of : ∀ (B A : List Cl) (f : Nat → Cl) (a : Int), Lod f A a → scan a B = 0 → ∃ g, Lod g (A ++ B) (lastS a B)
  | [], A, f, a, h, _ => ⟨f, by simpa [lastS] using h⟩
  | c :: r, A, f, a, h, hs => by
    simp only [scan] at hs
    by_cases h1 : may c
    · rw [if_pos h1] at hs
      by_cases h2 : c.s ≤ a
      · rw [if_pos h2] at hs; omega
      · rw [if_neg h2] at hs
        obtain ⟨g, hg⟩ := lod_of r (A ++ [c]) _ c.s (h.step h1 (by omega)) hs
        exact ⟨g, by simpa [lastS] using hg⟩
    · rw [if_neg h1] at hs; omega
theorem lod_all {L : List Cl} (h : scan (-1) L = 0) : ∃ g a, Lod g L a := by
  obtain ⟨g, hg⟩ := lod_of L [] _ (-1) Lod.start h
  exact ⟨g, _, by simpa using hg⟩
/-- What a place says of the first fault: all ahead of it passes. -/
theorem scan_at {L : List Cl} {k : Nat} (hk : k < L.length) (h : scan (-1) (L.take k) = 0) (hb : ¬ (may L[k] ∧ lastS (-1) (L.take k) < L[k].s)) : scan (-1) L = if may L[k] then 270 else 1 := by
  have e : L = L.take k ++ L[k] :: L.drop (k + 1) := by rw [← List.drop_eq_getElem_cons hk, List.take_append_drop]
  have := scan_append (L.take k) (L[k] :: L.drop (k + 1)) (-1) h
  rw [← e] at this
  rw [this]
  simp only [scan]
  by_cases h1 : may L[k]
  · rw [if_pos h1, if_pos h1, if_pos (by
      by_cases h : lastS (-1) (L.take k) < L[k].s
      · exact absurd ⟨h1, h⟩ hb
      · exact Int.not_lt.1 h)]
  · rw [if_neg h1, if_neg h1]
theorem scan_take {L : List Cl} {k : Nat} (hk : k < L.length) (h : scan (-1) (L.take k) = 0) (h1 : may L[k]) (h2 : lastS (-1) (L.take k) < L[k].s) : scan (-1) (L.take (k + 1)) = 0 ∧ lastS (-1) (L.take (k + 1)) = L[k].s := by
  rw [List.take_succ_eq_append_getElem hk]
  refine ⟨?_, lastS_snoc _ _ _⟩
  rw [scan_append _ _ _ h]
  simp only [scan, if_pos h1, if_neg (Int.not_le.2 h2)]
end Go.Proofs.Ytilbohjkkdkdiaa
