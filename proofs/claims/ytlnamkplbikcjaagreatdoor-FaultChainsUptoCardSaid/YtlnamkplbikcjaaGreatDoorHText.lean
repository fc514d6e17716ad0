/- Plain mathematics for stage 2: handles' texts: decimal digits, what is read of them; nothing of the program; no condition. -/
import Derived.Test.YtlnamkplbikcjaaGreatDoorHMath
import Derived.Lib.AtoiTie
import Derived.Lib.ItoaNum
import Derived.Lib.Bytealg
namespace Go.Proofs.YtlnamkplbikcjaaGreatDoor
open Go.RowKit

instance (k s g : Int) : Decidable (okP k s g) := by unfold okP; infer_instance
instance (h : Int) : Decidable (okH h) := by unfold okH; infer_instance

def letter (k : Int) : UInt8 := if k = 1 then 110 else if k = 2 then 116 else 115
/-- A handle's text. -/
def textL (h : Int) : List UInt8 :=
  if h = 0 then [45] else if okH h then letter (kOf h) :: (Lib.decDigits (sOf h).toNat ++ 46 :: Lib.decDigits (gOf h).toNat) else []

theorem textL_0 : textL 0 = [45] := rfl
theorem textL_ok {h : Int} (k : okH h) : textL h = letter (kOf h) :: (Lib.decDigits (sOf h).toNat ++ 46 :: Lib.decDigits (gOf h).toNat) := by
  unfold textL; rw [if_neg (okH_ne k), if_pos k]
theorem textL_no {h : Int} (k : ¬ okH h) (h0 : h ≠ 0) : textL h = [] := by unfold textL; rw [if_neg h0, if_neg k]

/-! ### Digits -/
def isD (b : UInt8) : Prop := 48 ≤ b.toNat ∧ b.toNat ≤ 57
instance (b : UInt8) : Decidable (isD b) := by unfold isD; infer_instance
theorem dg_toNat (n : Nat) (h : n ≤ 9) : (UInt8.ofNat (48 + n)).toNat = 48 + n := by rw [UInt8.toNat_ofNat']; exact Nat.mod_eq_of_lt (by omega)
theorem dec_small {n : Nat} (h : n < 10) : Lib.decDigits n = [UInt8.ofNat (48 + n)] := by rw [Lib.decDigits, dif_pos h]
theorem dec_big {n : Nat} (h : ¬ n < 10) : Lib.decDigits n = Lib.decDigits (n / 10) ++ [UInt8.ofNat (48 + n % 10)] := by rw [Lib.decDigits, dif_neg h]
theorem dec_isD (n : Nat) : ∀ b ∈ Lib.decDigits n, isD b := by
  induction n using Nat.strongRecOn with
  | _ n ih =>
    intro b hb
    by_cases h : n < 10
    · rw [dec_small h, List.mem_singleton] at hb
      subst hb; unfold isD; rw [dg_toNat n (by omega)]; omega
    · rw [dec_big h, List.mem_append, List.mem_singleton] at hb
      rcases hb with hb | hb
      · exact ih (n / 10) (by omega) b hb
      · subst hb; unfold isD; rw [dg_toNat _ (by omega)]; omega
theorem dec_len_pos (n : Nat) : 0 < (Lib.decDigits n).length := by rw [Lib.decDigits_length]; exact Lib.nDigits_pos n
theorem dec_ne (n : Nat) : Lib.decDigits n ≠ [] := fun e => by have := dec_len_pos n; rw [e] at this; simp at this
theorem nDigits_le : ∀ (k n : Nat), 1 ≤ k → n < 10 ^ k → Lib.nDigits n ≤ k
  | 0, _, h, _ => by omega
  | k + 1, n, _, h => by
    by_cases hs : n < 10
    · rw [Lib.nDigits_small hs]; omega
    · rw [Lib.nDigits_big hs]
      have hk : 1 ≤ k := by
        rcases Nat.eq_zero_or_pos k with e | e
        · subst e; simp at h; omega
        · exact e
      have := nDigits_le k (n / 10) hk (by rw [Nat.pow_succ] at h; omega)
      omega
theorem dec_len5 (n : Nat) (h : n ≤ 65535) : (Lib.decDigits n).length ≤ 5 := by
  rw [Lib.decDigits_length]; exact nDigits_le 5 n (by omega) (by omega)
theorem dec_len4 (n : Nat) (h : n ≤ 1023) : (Lib.decDigits n).length ≤ 4 := by
  rw [Lib.decDigits_length]; exact nDigits_le 4 n (by omega) (by omega)

theorem digitVal_dg (n : Nat) (h : n ≤ 9) : Lib.digitVal (UInt8.ofNat (48 + n)) = some n := by
  unfold Lib.digitVal
  rw [dg_toNat n h, if_pos (by omega)]
  congr 1
  omega
theorem decFrom_snoc (l : List UInt8) (b : UInt8) : ∀ (acc m d : Nat), Lib.decFrom acc l = some m → Lib.digitVal b = some d → Lib.decFrom acc (l ++ [b]) = some (m * 10 + d) := by
  induction l with
  | nil => intro acc m d h hd; simp only [Lib.decFrom, Option.some.injEq] at h; subst h; simp [Lib.decFrom, hd]
  | cons a t ih =>
    intro acc m d h hd
    simp only [List.cons_append, Lib.decFrom] at h ⊢
    cases ha : Lib.digitVal a with
    | none => rw [ha] at h; simp at h
    | some e => rw [ha] at h; simp only at h ⊢; exact ih _ _ _ h hd
theorem decFrom_dec (n : Nat) : Lib.decFrom 0 (Lib.decDigits n) = some n := by
  induction n using Nat.strongRecOn with
  | _ n ih =>
    by_cases h : n < 10
    · rw [dec_small h]
      unfold Lib.decFrom
      rw [digitVal_dg n (by omega)]
      simp [Lib.decFrom]
    · rw [dec_big h, decFrom_snoc _ _ 0 (n / 10) (n % 10) (ih _ (by omega)) (digitVal_dg _ (by omega))]
      congr 1; omega
theorem atoi_dec (n : Nat) : Lib.atoi (Lib.decDigits n) = some (n : Int) := by
  have h := decFrom_dec n
  have hd := dec_isD n
  cases hl : Lib.decDigits n with
  | nil => exact absurd hl (dec_ne n)
  | cons b r =>
    rw [hl] at h hd
    have hb := hd b (List.mem_cons_self ..)
    unfold isD at hb
    have h1 : (b == 45) = false := by rw [beq_eq_false_iff_ne]; rintro rfl; simp at hb
    have h2 : (b == 43) = false := by rw [beq_eq_false_iff_ne]; rintro rfl; simp at hb
    simp [Lib.atoi, h1, h2, Lib.decNat, h]
theorem atoiAll_dec (n : Nat) (h : n ≤ 65535) : Lib.atoiAll (Lib.decDigits n) = .ok (n : Int) := by
  rw [Lib.atoiAll_short _ (by have := dec_len5 n h; omega), atoi_dec]
  rfl

/-! ### The first dot -/
theorem indexByte_none (c : UInt8) : ∀ l : List UInt8, c ∉ l → Lib.indexByte l c = -1
  | [], _ => rfl
  | b :: r, h => by
    have h1 : (b == c) = false := by rw [beq_eq_false_iff_ne]; rintro rfl; exact h (List.mem_cons_self ..)
    have h2 := indexByte_none c r fun k => h (List.mem_cons_of_mem _ k)
    unfold Lib.indexByte
    simp [h1, h2]
theorem indexByte_first (c : UInt8) (t : List UInt8) : ∀ l : List UInt8, c ∉ l → Lib.indexByte (l ++ c :: t) c = l.length
  | [], _ => by simp [Lib.indexByte]
  | b :: r, h => by
    have h1 : (b == c) = false := by rw [beq_eq_false_iff_ne]; rintro rfl; exact h (List.mem_cons_self ..)
    have h2 := indexByte_first c t r fun k => h (List.mem_cons_of_mem _ k)
    have h3 : (((r.length : Nat) : Int) == -1) = false := by rw [beq_eq_false_iff_ne]; omega
    rw [List.cons_append, Lib.indexByte, h1, h2, h3]
    simp
theorem indexByte_lt (c : UInt8) : ∀ l : List UInt8, Lib.indexByte l c < l.length ∨ Lib.indexByte l c = -1
  | [] => .inr rfl
  | b :: r => by
    unfold Lib.indexByte
    have := indexByte_lt c r
    simp only [List.length_cons]
    split
    · left; omega
    · split
      · right; rfl
      · next h1 h2 => left; have h3 : Lib.indexByte r c ≠ -1 := by simpa using h2
                      omega
def cutDot (l : List UInt8) : List UInt8 × List UInt8 :=
  if 0 ≤ Lib.indexByte l 46 then (l.take (Lib.indexByte l 46).toNat, l.drop ((Lib.indexByte l 46).toNat + 1)) else (l, [])
theorem dot_not_digit {l : List UInt8} (h : ∀ b ∈ l, isD b) : (46 : UInt8) ∉ l := fun k => by
  have := h _ k; unfold isD at this; simp at this
theorem cutDot_dec (a : List UInt8) (b : List UInt8) (h : ∀ x ∈ a, isD x) : cutDot (a ++ 46 :: b) = (a, b) := by
  have e := indexByte_first 46 b a (dot_not_digit h)
  unfold cutDot
  rw [e, if_pos (by omega)]
  simp

/-! ### What the program guesses -/
def kindL (c : UInt8) : Int := Lib.indexByte [110, 116, 115] c + 1
theorem kindL_letter {k : Int} (h : 1 ≤ k ∧ k ≤ 3) : kindL (letter k) = k := by
  have : k = 1 ∨ k = 2 ∨ k = 3 := by omega
  rcases this with rfl | rfl | rfl <;> rfl
theorem letter_kindL {c : UInt8} (h : kindL c ≠ 0) : 1 ≤ kindL c ∧ kindL c ≤ 3 ∧ letter (kindL c) = c := by
  by_cases h1 : (110 : UInt8) = c
  · subst h1; decide
  · by_cases h2 : (116 : UInt8) = c
    · subst h2; decide
    · by_cases h3 : (115 : UInt8) = c
      · subst h3; decide
      · exfalso; apply h
        have e1 : ((110 : UInt8) == c) = false := by rw [beq_eq_false_iff_ne]; exact h1
        have e2 : ((116 : UInt8) == c) = false := by rw [beq_eq_false_iff_ne]; exact h2
        have e3 : ((115 : UInt8) == c) = false := by rw [beq_eq_false_iff_ne]; exact h3
        simp [kindL, Lib.indexByte, e1, e2, e3]

def guessN (c : UInt8) (a b : Lib.NumEnd Int) : Int :=
  match a, b with
  | .ok s, .ok g => if okP (kindL c) s g then mkH (kindL c) s g else 0
  | _, _ => 0
def guessV : List UInt8 → Int
  | [] => 0
  | c :: r => guessN c (Lib.atoiAll (cutDot r).1) (Lib.atoiAll (cutDot r).2)

theorem guess_dash : guessV [45] = 0 := by decide +kernel
theorem guess_text {h : Int} (k : okH h) : guessV (textL h) = h := by
  rw [textL_ok k]
  have hp : okP (kOf h) (sOf h) (gOf h) := k
  obtain ⟨p1, p2, p3, p4, p5, p6⟩ := id hp
  show guessN (letter (kOf h)) (Lib.atoiAll (cutDot (Lib.decDigits (sOf h).toNat ++ 46 :: Lib.decDigits (gOf h).toNat)).1) (Lib.atoiAll (cutDot (Lib.decDigits (sOf h).toNat ++ 46 :: Lib.decDigits (gOf h).toNat)).2) = h
  rw [cutDot_dec _ _ (dec_isD _)]
  simp only
  rw [atoiAll_dec _ (by omega), atoiAll_dec _ (by omega)]
  unfold guessN
  simp only
  rw [show (((sOf h).toNat : Nat) : Int) = sOf h by omega, show (((gOf h).toNat : Nat) : Int) = gOf h by omega, kindL_letter ⟨p1, p2⟩, if_pos hp, mk_of]
theorem guess_ok (l : List UInt8) : guessV l = 0 ∨ okH (guessV l) := by
  cases l with
  | nil => exact .inl rfl
  | cons c r =>
    show guessN c (Lib.atoiAll (cutDot r).1) (Lib.atoiAll (cutDot r).2) = 0 ∨ okH (guessN c (Lib.atoiAll (cutDot r).1) (Lib.atoiAll (cutDot r).2))
    unfold guessN
    split
    · split
      · next h => exact .inr (ok_mk h)
      · exact .inl rfl
    · exact .inl rfl
theorem text_len {h : Int} (k : h = 0 ∨ okH h) : (textL h).length ≤ 32 := by
  rcases k with rfl | k
  · decide
  · rw [textL_ok k]
    have hp : okP (kOf h) (sOf h) (gOf h) := k
    obtain ⟨p1, p2, p3, p4, p5, p6⟩ := id hp
    have := dec_len5 (sOf h).toNat (by omega)
    have := dec_len4 (gOf h).toNat (by omega)
    simp
    omega
end Go.Proofs.YtlnamkplbikcjaaGreatDoor
