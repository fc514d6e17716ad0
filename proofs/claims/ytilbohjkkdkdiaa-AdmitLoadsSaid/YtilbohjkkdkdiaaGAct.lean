/- What the acts do to a book, in plain words: Add, Resize, Die, Cross; nothing of the program is walked here; no condition but those that each row names. -/
import Derived.Test.YtilbohjkkdkdiaaGMath
namespace Go.Proofs.Ytilbohjkkdkdiaa
open Go.RowKit

def addE (f : Nat → Cl) (s n : Int) : Int :=
  if s < 0 ∨ 64 ≤ s then 1 else if 1 ≤ (f s.toNat).n then 30 else if n < 1 ∨ 1048576 < n then 2 else if 1048576 < sumTo f 64 + n then 80 else 0
def addF (f : Nat → Cl) (s n : Int) : Nat → Cl := if addE f s n = 0 then upd f s.toNat ⟨s, n, 0, false⟩ else f
def resE (f : Nat → Cl) (s n : Int) : Int :=
  if there f s then if (f s.toNat).d = true then 92 else if n < 1 ∨ 1048576 < n then 2 else if 1048576 < sumTo f 64 - cnt (f s.toNat) + max (f s.toNat).n n then 80 else 0 else 20
def resF (f : Nat → Cl) (s n : Int) : Nat → Cl := if resE f s n = 0 then upd f s.toNat ⟨(f s.toNat).s, (f s.toNat).n, n, (f s.toNat).d⟩ else f
def dieE (f : Nat → Cl) (s : Int) : Int := if there f s then if (f s.toNat).d = true then 92 else 0 else 20
def dieF (f : Nat → Cl) (s : Int) : Nat → Cl := if dieE f s = 0 then upd f s.toNat ⟨(f s.toNat).s, (f s.toNat).n, (f s.toNat).x, true⟩ else f
def croE (f : Nat → Cl) (s : Int) : Int := if there f s then 0 else 20
def croW (f : Nat → Cl) (s : Int) : Int := if there f s then if (f s.toNat).d = true then 2 else if (f s.toNat).x = 0 then 0 else 1 else 0
def croF (f : Nat → Cl) (s : Int) : Nat → Cl := if there f s then if (f s.toNat).d = true then upd f s.toNat zc else if (f s.toNat).x = 0 then f else upd f s.toNat ⟨s, (f s.toNat).x, 0, false⟩ else f

/-- Add, way by way. -/
inductive AddWay (f : Nat → Cl) (s n : Int) : Int → (Nat → Cl) → Prop
  | arg (h : s < 0 ∨ 64 ≤ s) : AddWay f s n 1 f
  | room (k : Nat) (hs : s = k) (hk : k < 64) (h : 1 ≤ (f k).n) : AddWay f s n 30 f
  | range (k : Nat) (hs : s = k) (hk : k < 64) (h : f k = zc) (hn : n < 1 ∨ 1048576 < n) : AddWay f s n 2 f
  | over (k : Nat) (hs : s = k) (hk : k < 64) (h : f k = zc) (h1 : 1 ≤ n) (h2 : n ≤ 1048576) (ho : 1048576 < sumTo f 64 + n) : AddWay f s n 80 f
  | ok (k : Nat) (hs : s = k) (hk : k < 64) (h : f k = zc) (h1 : 1 ≤ n) (h2 : n ≤ 1048576) (ho : sumTo f 64 + n ≤ 1048576) : AddWay f s n 0 (upd f k ⟨k, n, 0, false⟩)
theorem add_way {f : Nat → Cl} (hG : Good f) (s n : Int) : AddWay f s n (addE f s n) (addF f s n) := by
  unfold addF addE
  by_cases h : s < 0 ∨ 64 ≤ s
  · simp only [if_pos h]; exact .arg h
  · rw [if_neg h]
    obtain ⟨k, rfl⟩ : ∃ k : Nat, s = k := ⟨s.toNat, by omega⟩
    have hk : k < 64 := by omega
    rw [Int.toNat_natCast]
    by_cases h1 : 1 ≤ (f k).n
    · simp only [if_pos h1]; exact .room k rfl hk h1
    · rw [if_neg h1]
      have hz := hG.gone hk h1
      by_cases h2 : n < 1 ∨ 1048576 < n
      · simp only [if_pos h2]; exact .range k rfl hk hz h2
      · rw [if_neg h2]
        by_cases h3 : 1048576 < sumTo f 64 + n
        · simp only [if_pos h3]; exact .over k rfl hk hz (by omega) (by omega) h3
        · simp only [if_neg h3]; exact .ok k rfl hk hz (by omega) (by omega) (by omega)
/-- Resize, way by way. -/
inductive ResWay (f : Nat → Cl) (s n : Int) : Int → (Nat → Cl) → Prop
  | no (h : ¬ there f s) : ResWay f s n 20 f
  | dying (k : Nat) (a x : Int) (hs : s = k) (hk : k < 64) (h : f k = ⟨k, a, x, true⟩) (ha : 1 ≤ a) : ResWay f s n 92 f
  | range (k : Nat) (a x : Int) (hs : s = k) (hk : k < 64) (h : f k = ⟨k, a, x, false⟩) (ha : 1 ≤ a) (hn : n < 1 ∨ 1048576 < n) : ResWay f s n 2 f
  | over (k : Nat) (a x : Int) (hs : s = k) (hk : k < 64) (h : f k = ⟨k, a, x, false⟩) (ha : 1 ≤ a) (ha2 : a ≤ 1048576) (h1 : 1 ≤ n) (h2 : n ≤ 1048576) (ho : 1048576 < sumTo f 64 - cnt (f k) + cnt ⟨k, a, n, false⟩) : ResWay f s n 80 f
  | ok (k : Nat) (a x : Int) (hs : s = k) (hk : k < 64) (h : f k = ⟨k, a, x, false⟩) (ha : 1 ≤ a) (ha2 : a ≤ 1048576) (h1 : 1 ≤ n) (h2 : n ≤ 1048576) (ho : sumTo f 64 - cnt (f k) + cnt ⟨k, a, n, false⟩ ≤ 1048576) : ResWay f s n 0 (upd f k ⟨k, a, n, false⟩)
theorem res_way {f : Nat → Cl} (hG : Good f) (s n : Int) : ResWay f s n (resE f s n) (resF f s n) := by
  unfold resF resE
  by_cases h : there f s
  · rw [if_pos h]
    obtain ⟨k, a, x, d, rfl, hk, hf, ha1, ha2, hx1, hx2⟩ := there_parts hG h
    rw [Int.toNat_natCast]
    cases d with
    | true => simp only [hf, if_true]; exact .dying k a x rfl hk hf ha1
    | false =>
      simp only [hf, Bool.false_eq_true, if_false]
      by_cases h2 : n < 1 ∨ 1048576 < n
      · simp only [if_pos h2]; exact .range k a x rfl hk hf ha1 h2
      · rw [if_neg h2]
        by_cases h3 : 1048576 < sumTo f 64 - cnt ⟨k, a, x, false⟩ + max a n
        · simp only [if_pos h3]; exact .over k a x rfl hk hf ha1 ha2 (by omega) (by omega) (by rw [hf]; exact h3)
        · simp only [if_neg h3]; exact .ok k a x rfl hk hf ha1 ha2 (by omega) (by omega) (by rw [hf]; exact Int.not_lt.1 h3)
  · simp only [if_neg h]; exact .no h
inductive DieWay (f : Nat → Cl) (s : Int) : Int → (Nat → Cl) → Prop
  | no (h : ¬ there f s) : DieWay f s 20 f
  | dying (k : Nat) (a x : Int) (hs : s = k) (hk : k < 64) (h : f k = ⟨k, a, x, true⟩) (ha : 1 ≤ a) : DieWay f s 92 f
  | ok (k : Nat) (a x : Int) (hs : s = k) (hk : k < 64) (h : f k = ⟨k, a, x, false⟩) (ha : 1 ≤ a) (ha2 : a ≤ 1048576) (hx : 0 ≤ x) (hx2 : x ≤ 1048576) : DieWay f s 0 (upd f k ⟨k, a, x, true⟩)
theorem die_way {f : Nat → Cl} (hG : Good f) (s : Int) : DieWay f s (dieE f s) (dieF f s) := by
  unfold dieF dieE
  by_cases h : there f s
  · rw [if_pos h]
    obtain ⟨k, a, x, d, rfl, hk, hf, ha1, ha2, hx1, hx2⟩ := there_parts hG h
    rw [Int.toNat_natCast]
    cases d with
    | true => simp only [hf, if_true]; exact .dying k a x rfl hk hf ha1
    | false => simp only [hf, Bool.false_eq_true, if_false]; exact .ok k a x rfl hk hf ha1 ha2 hx1 hx2
  · simp only [if_neg h]; exact .no h
inductive CroWay (f : Nat → Cl) (s : Int) : Int → Int → (Nat → Cl) → Prop
  | no (h : ¬ there f s) : CroWay f s 20 0 f
  | gone (k : Nat) (a x : Int) (hs : s = k) (hk : k < 64) (h : f k = ⟨k, a, x, true⟩) (ha : 1 ≤ a) : CroWay f s 0 2 (upd f k zc)
  | stays (k : Nat) (a : Int) (hs : s = k) (hk : k < 64) (h : f k = ⟨k, a, 0, false⟩) (ha : 1 ≤ a) : CroWay f s 0 0 f
  | switched (k : Nat) (a x : Int) (hs : s = k) (hk : k < 64) (h : f k = ⟨k, a, x, false⟩) (ha : 1 ≤ a) (hx : 1 ≤ x) (hx2 : x ≤ 1048576) : CroWay f s 0 1 (upd f k ⟨k, x, 0, false⟩)
theorem cro_way {f : Nat → Cl} (hG : Good f) (s : Int) : CroWay f s (croE f s) (croW f s) (croF f s) := by
  unfold croF croE croW
  by_cases h : there f s
  · simp only [if_pos h]
    obtain ⟨k, a, x, d, rfl, hk, hf, ha1, ha2, hx1, hx2⟩ := there_parts hG h
    rw [Int.toNat_natCast]
    cases d with
    | true => simp only [hf, if_true]; exact .gone k a x rfl hk hf ha1
    | false =>
      simp only [hf, Bool.false_eq_true, if_false]
      by_cases h0 : x = 0
      · subst h0; simp only [if_true]; exact .stays k a rfl hk hf ha1
      · simp only [if_neg h0]; exact .switched k a x rfl hk hf ha1 (by omega) hx2
  · simp only [if_neg h]; exact .no h
theorem add_good {f : Nat → Cl} (hG : Good f) (s n : Int) : Good (addF f s n) := by
  have := add_way hG s n
  generalize addE f s n = e at this
  generalize addF f s n = g at this
  cases this with
  | arg | room | range | over => exact hG
  | ok k hs hk h h1 h2 ho =>
    refine hG.upd hk (.inr ⟨rfl, h1, h2, Int.le_refl _, by simp⟩) ?_
    rw [h, cnt_zc]
    have : cnt ⟨k, n, 0, false⟩ = n := by unfold cnt; simp only; omega
    omega
theorem res_good {f : Nat → Cl} (hG : Good f) (s n : Int) : Good (resF f s n) := by
  have := res_way hG s n
  generalize resE f s n = e at this
  generalize resF f s n = g at this
  cases this with
  | no | dying | range | over => exact hG
  | ok k a x hs hk h ha ha2 h1 h2 ho => exact hG.upd hk (.inr ⟨rfl, ha, ha2, by simp only; omega, h2⟩) ho
theorem die_good {f : Nat → Cl} (hG : Good f) (s : Int) : Good (dieF f s) := by
  have := die_way hG s
  generalize dieE f s = e at this
  generalize dieF f s = g at this
  cases this with
  | no | dying => exact hG
  | ok k a x hs hk h ha ha2 hx hx2 =>
    refine hG.upd hk (.inr ⟨rfl, ha, ha2, hx, hx2⟩) ?_
    rw [h]
    have := hG.sum
    have e : cnt ⟨k, a, x, false⟩ = cnt ⟨k, a, x, true⟩ := rfl
    omega
theorem cro_good {f : Nat → Cl} (hG : Good f) (s : Int) : Good (croF f s) := by
  have := cro_way hG s
  generalize croE f s = e at this
  generalize croW f s = e2 at this
  generalize croF f s = g at this
  cases this with
  | no | stays => exact hG
  | gone k a x hs hk h ha =>
    refine hG.upd hk (.inl rfl) ?_
    rw [cnt_zc]
    have := hG.sum
    have := hG.small k hk
    omega
  | switched k a x hs hk h ha hx hx2 =>
    refine hG.upd hk (.inr ⟨rfl, hx, hx2, Int.le_refl _, by simp⟩) ?_
    have := hG.sum
    have e : cnt ⟨k, x, 0, false⟩ ≤ cnt (f k) := by rw [h]; unfold cnt; simp only; omega
    omega
end Go.Proofs.Ytilbohjkkdkdiaa
