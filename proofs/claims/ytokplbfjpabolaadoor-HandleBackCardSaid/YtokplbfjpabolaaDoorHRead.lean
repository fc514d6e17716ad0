/- Plain mathematics for stage 2: what the document's own reading answers, and that it is what the program's answers; nothing of the program; no condition. -/
import Derived.Test.YtokplbfjpabolaaDoorHText
namespace Go.Proofs.YtokplbfjpabolaaDoor
open Go.RowKit

/-- The number of the digits ahead, f at most, behind n; how many they are. -/
def numR : Nat → Int → List UInt8 → Int × Nat
  | 0, n, _ => (n, 0)
  | _ + 1, n, [] => (n, 0)
  | f + 1, n, b :: r => if isD b then ((numR f (10 * n + ((b.toNat : Int) - 48)) r).1, (numR f (10 * n + ((b.toNat : Int) - 48)) r).2 + 1) else (n, 0)
def okN (l : List UInt8) (k : Nat) : Prop := 0 < k ∧ (l[0]? ≠ some 48 ∨ k = 1)
instance (l : List UInt8) (k : Nat) : Decidable (okN l k) := by unfold okN; infer_instance

theorem numR_le : ∀ (f : Nat) (n : Int) (l : List UInt8), (numR f n l).2 ≤ l.length ∧ (numR f n l).2 ≤ f
  | 0, _, _ => by simp [numR]
  | _ + 1, _, [] => by simp [numR]
  | f + 1, n, b :: r => by
    unfold numR
    split
    · have := numR_le f (10 * n + ((b.toNat : Int) - 48)) r
      simp only [List.length_cons]
      omega
    · simp

theorem byte_dg {b : UInt8} (h : isD b) : b = UInt8.ofNat (48 + (b.toNat - 48)) := by
  unfold isD at h
  rw [show 48 + (b.toNat - 48) = b.toNat by omega]
  simp
theorem dec_next (m : Nat) (hm : 1 ≤ m) (b : UInt8) (h : isD b) : Lib.decDigits (10 * m + (b.toNat - 48)) = Lib.decDigits m ++ [b] := by
  have h' := h
  unfold isD at h'
  rw [dec_big (by omega), show (10 * m + (b.toNat - 48)) / 10 = m by omega, show (10 * m + (b.toNat - 48)) % 10 = b.toNat - 48 by omega, ← byte_dg h]
theorem dec_first (b : UInt8) (h : isD b) : Lib.decDigits (b.toNat - 48) = [b] := by
  have h' := h
  unfold isD at h'
  rw [dec_small (by omega), ← byte_dg h]

/-- What the digits behind a number that is not 0 add. -/
theorem numR_more : ∀ (f m : Nat) (l : List UInt8), 1 ≤ m → ∃ n : Nat, (numR f m l).1 = n ∧ Lib.decDigits n = Lib.decDigits m ++ l.take (numR f m l).2
  | 0, m, l, _ => ⟨m, by simp [numR]⟩
  | _ + 1, m, [], _ => ⟨m, by simp [numR]⟩
  | f + 1, m, b :: r, hm => by
    unfold numR
    split
    · next h =>
      have h' := h
      unfold isD at h'
      have e : (10 * (m : Int) + ((b.toNat : Int) - 48)) = ((10 * m + (b.toNat - 48) : Nat) : Int) := by omega
      rw [e]
      obtain ⟨n, h1, h2⟩ := numR_more f (10 * m + (b.toNat - 48)) r (by omega)
      refine ⟨n, h1, ?_⟩
      rw [h2, dec_next m hm b h]
      simp
    · exact ⟨m, by simp⟩
/-- Where it is a number without needless noughts, its digits are the text. -/
theorem numR_ok (l : List UInt8) (h : okN l (numR 6 0 l).2) : ∃ n : Nat, (numR 6 0 l).1 = n ∧ Lib.decDigits n = l.take (numR 6 0 l).2 := by
  obtain ⟨h1, h2⟩ := h
  cases l with
  | nil => simp [numR] at h1
  | cons b r =>
    unfold numR at *
    split at h1
    · next hb =>
      rw [if_pos hb] at h2 ⊢
      have h' := hb
      unfold isD at h'
      have e : (10 * (0 : Int) + ((b.toNat : Int) - 48)) = ((b.toNat - 48 : Nat) : Int) := by omega
      rw [e] at h2 ⊢
      simp only at h2 ⊢
      by_cases h0 : b = 48
      · subst h0
        have hk : (numR 5 ((48 : UInt8).toNat - 48 : Nat) r).2 + 1 = 1 := by simpa using h2
        rw [hk]
        have hk0 : (numR 5 ((48 : UInt8).toNat - 48 : Nat) r).2 = 0 := by omega
        refine ⟨0, ?_, ?_⟩
        · cases r with
          | nil => rfl
          | cons c t =>
            unfold numR at hk0 ⊢
            split at hk0
            · simp at hk0
            · next hc => rw [if_neg hc]; rfl
        · rw [dec_small (by omega)]; rfl
      · have hm : 1 ≤ b.toNat - 48 := by
          have : b.toNat ≠ 48 := fun k => h0 (UInt8.toNat_inj.1 k)
          omega
        obtain ⟨n, g1, g2⟩ := numR_more 5 (b.toNat - 48) r hm
        refine ⟨n, g1, ?_⟩
        rw [g2, dec_first b hb]
        simp
    · simp at h1

/-- Of digits, then what is none, it reads the digits. -/
theorem numR_dec : ∀ (f : Nat) (ds t : List UInt8) (acc m : Nat), Lib.decFrom acc ds = some m → ds.length ≤ f → (∀ b, t.head? = some b → ¬ isD b) → numR f acc (ds ++ t) = ((m : Int), ds.length)
  | 0, ds, t, acc, m, h, hl, _ => by
    have : ds = [] := List.eq_nil_of_length_eq_zero (by omega)
    subst this
    simp only [Lib.decFrom, Option.some.injEq] at h
    subst h
    rfl
  | f + 1, [], t, acc, m, h, _, ht => by
    simp only [Lib.decFrom, Option.some.injEq] at h
    subst h
    cases t with
    | nil => rfl
    | cons b r =>
      have := ht b rfl
      simp [numR, this]
  | f + 1, b :: r, t, acc, m, h, hl, ht => by
    simp only [Lib.decFrom] at h
    by_cases hb : isD b
    · have hv : Lib.digitVal b = some (b.toNat - 48) := by unfold Lib.digitVal; rw [if_pos (by unfold isD at hb; exact hb)]
      rw [hv] at h
      simp only at h
      have h' := hb
      unfold isD at h'
      have e : (10 * (acc : Int) + ((b.toNat : Int) - 48)) = ((acc * 10 + (b.toNat - 48) : Nat) : Int) := by omega
      rw [List.cons_append]
      unfold numR
      rw [if_pos hb, e, numR_dec f r t _ m h (by simp at hl; omega) ht]
      simp
    · have hv : Lib.digitVal b = none := by unfold Lib.digitVal; rw [if_neg (by unfold isD at hb; exact hb)]
      rw [hv] at h
      simp at h

theorem dec_head_ne (n : Nat) (hn : 1 ≤ n) : ∃ b r, Lib.decDigits n = b :: r ∧ b ≠ 48 := by
  induction n using Nat.strongRecOn with
  | _ n ih =>
    by_cases h : n < 10
    · refine ⟨_, [], dec_small h, fun k => ?_⟩
      have := congrArg UInt8.toNat k
      rw [dg_toNat n (by omega)] at this
      simp at this
      omega
    · obtain ⟨b, r, e, hb⟩ := ih (n / 10) (by omega) (by omega)
      exact ⟨b, r ++ [UInt8.ofNat (48 + n % 10)], by rw [dec_big h, e]; rfl, hb⟩
theorem okN_dec (n : Nat) (t : List UInt8) : okN (Lib.decDigits n ++ t) (Lib.decDigits n).length := by
  refine ⟨dec_len_pos n, ?_⟩
  by_cases hn : 1 ≤ n
  · obtain ⟨b, r, e, hb⟩ := dec_head_ne n hn
    left
    rw [e]
    simp [hb]
  · right
    have : n = 0 := by omega
    subst this
    rw [dec_small (by omega)]
    rfl

/-- What the document's reading answers, of at most 32 bytes. -/
def rread2 (k s : Int) (r : List UInt8) : Int × Int :=
  if ¬ okN r (numR 6 0 r).2 ∨ (numR 6 0 r).2 ≠ r.length ∨ ¬ okP k s (numR 6 0 r).1 then (0, 4) else (mkH k s (numR 6 0 r).1, 0)
def rread1 (k : Int) (r : List UInt8) : Int × Int :=
  if k = 0 ∨ ¬ okN r (numR 6 0 r).2 ∨ r[(numR 6 0 r).2]? ≠ some 46 then (0, 4) else rread2 k (numR 6 0 r).1 (r.drop ((numR 6 0 r).2 + 1))
def rreadV (l : List UInt8) : Int × Int :=
  if 32 < l.length then (0, 3) else if l = [45] then (0, 0) else match l with
  | [] => (0, 4)
  | c :: r => rread1 (kindL c) r

theorem rread_text {h : Int} (k : h = 0 ∨ okH h) : rreadV (textL h) = (h, 0) := by
  have hl := text_len k
  rcases k with rfl | k
  · rfl
  · unfold rreadV
    rw [if_neg (by omega), textL_ok k, if_neg (by simp)]
    have hp : okP (kOf h) (sOf h) (gOf h) := k
    obtain ⟨p1, p2, p3, p4, p5, p6⟩ := id hp
    show rread1 (kindL (letter (kOf h))) _ = _
    rw [kindL_letter ⟨p1, p2⟩]
    have e1 := numR_dec 6 (Lib.decDigits (sOf h).toNat) (46 :: Lib.decDigits (gOf h).toNat) 0 (sOf h).toNat (decFrom_dec _) (by have := dec_len5 (sOf h).toNat (by omega); omega) (fun b hb => by simp at hb; subst hb; unfold isD; simp)
    have e2 := numR_dec 6 (Lib.decDigits (gOf h).toNat) [] 0 (gOf h).toNat (decFrom_dec _) (by have := dec_len4 (gOf h).toNat (by omega); omega) (fun b hb => by simp at hb)
    rw [List.append_nil] at e2
    rw [show ((0 : Nat) : Int) = 0 from rfl] at e1 e2
    have o1 := okN_dec (sOf h).toNat (46 :: Lib.decDigits (gOf h).toNat)
    have o2 := okN_dec (gOf h).toNat []
    rw [List.append_nil] at o2
    unfold rread1
    rw [e1]
    simp only
    rw [if_neg (by
      rintro (h1 | h1 | h1)
      · omega
      · exact h1 o1
      · simp at h1)]
    have ed : (Lib.decDigits (sOf h).toNat ++ 46 :: Lib.decDigits (gOf h).toNat).drop ((Lib.decDigits (sOf h).toNat).length + 1) = Lib.decDigits (gOf h).toNat := by simp
    rw [ed]
    unfold rread2
    rw [e2]
    simp only
    rw [show (((sOf h).toNat : Nat) : Int) = sOf h by omega, show (((gOf h).toNat : Nat) : Int) = gOf h by omega, mk_of]
    rw [if_neg (by
      rintro (h1 | h1 | h1)
      · exact h1 o2
      · exact h1 rfl
      · exact h1 hp)]

theorem rread2_inv {k s : Int} {r : List UInt8} (h : rread2 k s r ≠ (0, 4)) : ∃ g : Nat, okP k s g ∧ r = Lib.decDigits g ∧ rread2 k s r = (mkH k s g, 0) := by
  unfold rread2 at *
  split at h
  · exact absurd rfl h
  · next hc =>
    rw [if_neg hc]
    have h1 : okN r (numR 6 0 r).2 := Decidable.byContradiction fun k => hc (.inl k)
    have h2 : (numR 6 0 r).2 = r.length := Decidable.byContradiction fun k => hc (.inr (.inl k))
    have h3 : okP k s (numR 6 0 r).1 := Decidable.byContradiction fun k => hc (.inr (.inr k))
    obtain ⟨g, e1, e2⟩ := numR_ok r h1
    rw [h2, List.take_length] at e2
    rw [e1] at h3 ⊢
    exact ⟨g, h3, e2.symm, rfl⟩
theorem rread1_inv {k : Int} {r : List UInt8} (h : rread1 k r ≠ (0, 4)) : ∃ s g : Nat, okP k s g ∧ r = Lib.decDigits s ++ 46 :: Lib.decDigits g ∧ rread1 k r = (mkH k s g, 0) := by
  unfold rread1 at *
  split at h
  · exact absurd rfl h
  · next hc =>
    rw [if_neg hc]
    have h1 : okN r (numR 6 0 r).2 := Decidable.byContradiction fun k => hc (.inr (.inl k))
    have h2 : r[(numR 6 0 r).2]? = some 46 := Decidable.byContradiction fun k => hc (.inr (.inr k))
    obtain ⟨s, e1, e2⟩ := numR_ok r h1
    rw [e1] at h ⊢
    obtain ⟨g, g1, g2, g3⟩ := rread2_inv h
    refine ⟨s, g, g1, ?_, g3⟩
    have hlt : (numR 6 0 r).2 < r.length := (List.getElem?_eq_some_iff.1 h2).1
    have h3 : r[(numR 6 0 r).2] = 46 := (List.getElem?_eq_some_iff.1 h2).2
    rw [e2, ← g2]
    rw [← h3, ← List.drop_eq_getElem_cons hlt, List.take_append_drop]
theorem rread_no {l : List UInt8} (hl : l.length ≤ 32) (h : ∀ n, (n = 0 ∨ okH n) → l ≠ textL n) : rreadV l = (0, 4) := by
  unfold rreadV
  rw [if_neg (by omega)]
  split
  · next h1 => exact absurd h1 (h 0 (.inl rfl))
  · split
    · rfl
    · next c r _ =>
      refine Decidable.byContradiction fun hc => ?_
      obtain ⟨s, g, g1, g2, _⟩ := rread1_inv hc
      have hk : kindL c ≠ 0 := fun e => by rw [e] at g1; unfold okP at g1; omega
      obtain ⟨_, _, k3⟩ := letter_kindL hk
      obtain ⟨m1, m2, m3⟩ := of_mk g1
      refine h _ (.inr (ok_mk g1)) ?_
      rw [textL_ok (ok_mk g1), m1, m2, m3, k3, g2]
      simp
/-- Of a text that is none the program's guess has another text. -/
theorem guess_no {l : List UInt8} (h : ∀ n, (n = 0 ∨ okH n) → l ≠ textL n) : textL (guessV l) ≠ l := fun e => h _ (guess_ok l) e.symm
end Go.Proofs.YtokplbfjpabolaaDoor
