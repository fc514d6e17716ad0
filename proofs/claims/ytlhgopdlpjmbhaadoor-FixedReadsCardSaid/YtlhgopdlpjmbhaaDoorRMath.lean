/- Plain mathematics for the document's own reading of a text: digits doubled twenty times. Nothing of the program. -/
import Derived.Test.YtlhgopdlpjmbhaaDoorDig
import Derived.Laws.OwnMore
namespace Go.Proofs.YtlhgopdlpjmbhaaDoor
open Go.RowKit

def isD (b : UInt8) : Bool := decide (48 ≤ b.toNat ∧ b.toNat ≤ 57)
def dig (b : UInt8) : Nat := b.toNat - 48

/-- A row of digits doubled: what passes its head, and the row. -/
def dbl : List Nat → Nat × List Nat
  | [] => (0, [])
  | d :: t => ((2 * d + (dbl t).1) / 10, (2 * d + (dbl t).1) % 10 :: (dbl t).2)
def bits : Nat → List Nat → Nat → List Nat × Nat
  | 0, ds, n => (ds, n)
  | k + 1, ds, n => bits k (dbl ds).2 (2 * n + (dbl ds).1)
def zerosB (ds : List Nat) : Bool := ds.all fun d => d == 0
def fin (ds : List Nat) : Option Nat := if zerosB (bits 20 ds 0).1 then some (bits 20 ds 0).2 else none
def core (bs : List UInt8) : Option Nat := if bs.all isD then fin (bs.map dig) else none

theorem dbl_len : ∀ ds : List Nat, (dbl ds).2.length = ds.length
  | [] => rfl
  | d :: t => by simp [dbl, dbl_len t]
theorem dbl_carry : ∀ ds : List Nat, (∀ d ∈ ds, d ≤ 9) → (dbl ds).1 ≤ 1
  | [], _ => by simp [dbl]
  | d :: t, h => by
    have h1 := dbl_carry t fun x hx => h x (List.mem_cons_of_mem _ hx)
    have h2 : d ≤ 9 := h d List.mem_cons_self
    simp only [dbl]
    omega
theorem dbl_nine : ∀ ds : List Nat, ∀ d ∈ (dbl ds).2, d ≤ 9
  | [], d, h => by simp [dbl] at h
  | x :: t, d, h => by
    simp only [dbl, List.mem_cons] at h
    rcases h with h | h
    · omega
    · exact dbl_nine t d h
theorem dbl_val : ∀ ds : List Nat, 2 * val ds = (dbl ds).1 * 10 ^ ds.length + val (dbl ds).2
  | [] => rfl
  | d :: t => by
    have ih := dbl_val t
    simp only [dbl, val, List.length_cons, Nat.pow_succ, dbl_len]
    generalize 10 ^ t.length = P at *
    generalize hc : (dbl t).1 = c at *
    generalize val (dbl t).2 = v' at *
    have e : 2 * d + c = (2 * d + c) / 10 * 10 + (2 * d + c) % 10 := by omega
    generalize (2 * d + c) / 10 = q at *
    generalize (2 * d + c) % 10 = r at *
    have e2 : (2 * d + c) * P = (q * 10 + r) * P := by rw [e]
    rw [Nat.add_mul, Nat.add_mul] at e2
    have e3 : q * (P * 10) = q * 10 * P := by rw [Nat.mul_comm P 10, Nat.mul_assoc]
    have e4 : 2 * (d * P + val t) = 2 * d * P + 2 * val t := by rw [Nat.mul_add, Nat.mul_assoc]
    rw [e3, e4, ih]
    omega

theorem bits_inv : ∀ (k : Nat) (ds : List Nat) (n : Nat), (bits k ds n).1.length = ds.length ∧ (2 ^ k * (n * 10 ^ ds.length + val ds) = (bits k ds n).2 * 10 ^ ds.length + val (bits k ds n).1)
  | 0, ds, n => ⟨rfl, by simp [bits]⟩
  | k + 1, ds, n => by
    obtain ⟨h1, h2⟩ := bits_inv k (dbl ds).2 (2 * n + (dbl ds).1)
    rw [dbl_len] at h1 h2
    refine ⟨h1, ?_⟩
    simp only [bits]
    rw [← h2, Nat.pow_succ, Nat.mul_assoc]
    congr 1
    rw [Nat.mul_add, dbl_val ds, Nat.add_mul, Nat.mul_assoc]
    omega
theorem bits_nine : ∀ (k : Nat) (ds : List Nat) (n : Nat), (∀ d ∈ ds, d ≤ 9) → ∀ d ∈ (bits k ds n).1, d ≤ 9
  | 0, _, _, h => h
  | k + 1, ds, _, _ => bits_nine k _ _ (dbl_nine ds)

theorem val_zeros : ∀ ds : List Nat, zerosB ds = decide (val ds = 0)
  | [] => rfl
  | d :: t => by
    have hP : 0 < 10 ^ t.length := Nat.pow_pos (by omega)
    have ih := val_zeros t
    simp only [zerosB, List.all_cons, val] at *
    rw [ih]
    by_cases hd : d = 0
    · subst hd; simp
    · have : d * 10 ^ t.length ≠ 0 := by
        intro h
        rcases Nat.mul_eq_zero.1 h with h | h
        · exact hd h
        · omega
      have h1 : (d == 0) = false := by simpa using hd
      rw [h1]
      simp
      omega

/-- What the doubling finds: just the units whose digits they are. -/
theorem fin_some {ds : List Nat} {n : Nat} (h : fin ds = some n) : val ds * 1048576 = n * 10 ^ ds.length := by
  unfold fin at h
  split at h
  · rename_i hz
    have h2 := (bits_inv 20 ds 0).2
    rw [val_zeros] at hz
    have hz' := of_decide_eq_true hz
    rw [hz', Option.some.inj h] at h2
    rw [Nat.mul_comm]
    have e : (2 : Nat) ^ 20 = 1048576 := rfl
    rw [e, Nat.zero_mul, Nat.zero_add, Nat.add_zero] at h2
    exact h2
  · cases h
theorem fin_of {ds : List Nat} {n : Nat} (h9 : ∀ d ∈ ds, d ≤ 9) (h : val ds * 1048576 = n * 10 ^ ds.length) : fin ds = some n := by
  have h2 := (bits_inv 20 ds 0).2
  have h1 := (bits_inv 20 ds 0).1
  have e : (2 : Nat) ^ 20 = 1048576 := rfl
  rw [e, Nat.zero_mul, Nat.zero_add, Nat.mul_comm 1048576, h] at h2
  have hlt := val_lt _ (bits_nine 20 ds 0 h9)
  rw [h1] at hlt
  have hP : 0 < 10 ^ ds.length := Nat.pow_pos (by omega)
  unfold fin
  rw [val_zeros]
  generalize val (bits 20 ds 0).1 = v at *
  generalize (bits 20 ds 0).2 = m at *
  generalize 10 ^ ds.length = P at *
  have hnm : n = m := by
    rcases Nat.lt_trichotomy n m with k | k | k
    · exfalso
      have : (n + 1) * P ≤ m * P := Nat.mul_le_mul_right _ k
      rw [Nat.add_mul] at this
      omega
    · exact k
    · exfalso
      have : (m + 1) * P ≤ n * P := Nat.mul_le_mul_right _ k
      rw [Nat.add_mul] at this
      omega
  subst hnm
  have hv : v = 0 := by omega
  rw [if_pos (by simp [hv])]

theorem dgB_dig (b : UInt8) (h : isD b = true) : dgB (dig b) = b ∧ dig b ≤ 9 := by
  have h' := of_decide_eq_true h
  have hd : dig b ≤ 9 := by unfold dig; omega
  refine ⟨?_, hd⟩
  rw [← UInt8.toNat_inj, dgB_toNat _ hd]
  unfold dig
  omega
theorem dig_dgB (d : Nat) (h : d ≤ 9) : dig (dgB d) = d ∧ isD (dgB d) = true := by
  have e := dgB_toNat d h
  unfold dig isD
  rw [e]
  exact ⟨by omega, decide_eq_true (by omega)⟩
theorem dgB_48 (d : Nat) (h : d ≤ 9) (e : dgB d = 48) : d = 0 := by
  have e1 := dgB_toNat d h
  rw [e] at e1
  have : (48 : UInt8).toNat = 48 := rfl
  omega

theorem map_dig : ∀ ds : List Nat, (∀ d ∈ ds, d ≤ 9) → (ds.map dgB).map dig = ds ∧ (ds.map dgB).all isD = true
  | [], _ => ⟨rfl, rfl⟩
  | d :: t, h => by
    obtain ⟨h1, h2⟩ := map_dig t fun x hx => h x (List.mem_cons_of_mem _ hx)
    obtain ⟨e1, e2⟩ := dig_dgB d (h d List.mem_cons_self)
    simp only [List.map_cons, List.all_cons, h1, h2, e1, e2]
    exact ⟨trivial, rfl⟩
theorem map_dgB : ∀ bs : List UInt8, bs.all isD = true → (bs.map dig).map dgB = bs ∧ ∀ d ∈ bs.map dig, d ≤ 9
  | [], _ => ⟨rfl, by simp⟩
  | b :: t, h => by
    rw [List.all_cons, Bool.and_eq_true] at h
    obtain ⟨h1, h2⟩ := map_dgB t h.2
    obtain ⟨e1, e2⟩ := dgB_dig b h.1
    refine ⟨by rw [List.map_cons, List.map_cons, h1, e1], ?_⟩
    intro d hd
    rw [List.map_cons, List.mem_cons] at hd
    rcases hd with h | h
    · omega
    · exact h2 d h

/-- What the document's reading answers. -/
def rreadV (l : List UInt8) : Option Nat :=
  if l = [49] then some 1048576 else if l = [48] then some 0 else
  if l.length < 3 ∨ 22 < l.length ∨ l.take 2 ≠ [48, 46] ∨ l.getLast? = some 48 then none else core (l.drop 2)

theorem decL_one : decL 1048576 = [49] := by decide +kernel
theorem decL_nil : decL 0 = [48] := by decide +kernel
theorem decL_mid (u : Nat) (h0 : 0 < u) (h1 : u < 1048576) : decL u = 48 :: 46 :: tailD 20 u := by
  unfold decL
  have e1 : u / 1048576 = 0 := by omega
  have e2 : u % 1048576 = u := by omega
  rw [e1, e2, if_neg (by omega)]
  rfl

theorem rreadV_dec (u : Nat) (hu : u ≤ 1048576) : rreadV (decL u) = some u := by
  unfold rreadV
  by_cases h1 : u = 1048576
  · rw [h1, decL_one, if_pos rfl]
  · by_cases h0 : u = 0
    · rw [h0, decL_nil, if_neg (by decide), if_pos rfl]
    · obtain ⟨ds, e, h9, hl, hlast, hv, hne⟩ := tail_digits 20 u (by omega) (Dv_start u)
      have hne' := hne (by omega)
      have hlen : 0 < ds.length := List.length_pos_iff.2 hne'
      rw [decL_mid u (by omega) (by omega), e]
      rw [if_neg (by simp), if_neg (by simp), if_neg]
      · obtain ⟨k1, k2⟩ := map_dig ds h9
        show core (ds.map dgB) = some u
        unfold core
        rw [k1, if_pos k2]
        exact fin_of h9 hv
      · simp only [List.length_cons, List.length_map, not_or]
        refine ⟨by omega, by omega, by simp, ?_⟩
        intro hh
        apply hlast
        have hmap : (ds.map dgB).getLast? = some 48 := by
          cases hds : ds with
          | nil => exact absurd hds hne'
          | cons x t => rw [hds] at hh; rw [List.map_cons] at hh ⊢; rw [List.getLast?_cons_cons, List.getLast?_cons_cons] at hh; exact hh
        rw [List.getLast?_map] at hmap
        cases hg : ds.getLast? with
        | none => rw [hg] at hmap; cases hmap
        | some d =>
          rw [hg] at hmap
          have hd := h9 d (List.mem_of_getLast? hg)
          rw [dgB_48 d hd (Option.some.inj hmap)]

theorem between (v n P : Nat) (hpos : 0 < v) (hlt : v < P) (hv : v * 1048576 = n * P) : 0 < n ∧ n < 1048576 := by
  constructor
  · rcases Nat.eq_zero_or_pos n with h0 | h0
    · rw [h0, Nat.zero_mul] at hv
      rcases Nat.mul_eq_zero.1 hv with h | h
      · omega
      · exact absurd h (by decide)
    · exact h0
  · have : n * P < 1048576 * P := by
      rw [← hv, Nat.mul_comm 1048576]
      exact Nat.mul_lt_mul_of_pos_right hlt (by decide)
    exact Nat.lt_of_mul_lt_mul_right this

theorem rreadV_no (l : List UInt8) (h : ∀ u, u ≤ 1048576 → l ≠ decL u) : rreadV l = none := by
  unfold rreadV
  rw [if_neg (by rw [← decL_one]; exact h _ (by omega)), if_neg (by rw [← decL_nil]; exact h _ (by omega))]
  split
  · rfl
  · rename_i hc
    simp only [not_or, ne_eq, Decidable.not_not] at hc
    obtain ⟨c1, c2, c3, c4⟩ := hc
    unfold core
    split
    · rename_i hall
      obtain ⟨k1, k2⟩ := map_dgB _ hall
      cases hf : fin ((l.drop 2).map dig) with
      | none => rfl
      | some n =>
        exfalso
        have hl2 : l = 48 :: 46 :: l.drop 2 := by
          have := List.take_append_drop 2 l
          rw [c3] at this
          exact this.symm
        have hv := fin_some hf
        have hne : l.drop 2 ≠ [] := by
          intro h
          have := congrArg List.length h
          simp at this
          omega
        have hlast : ((l.drop 2).map dig).getLast? ≠ some 0 := by
          intro hh
          apply c4
          rw [hl2]
          rw [List.getLast?_map] at hh
          cases hg : (l.drop 2).getLast? with
          | none => rw [hg] at hh; cases hh
          | some b =>
            rw [hg] at hh
            have hb := List.all_eq_true.1 hall b (List.mem_of_getLast? hg)
            have e1 := (dgB_dig b hb).1
            rw [Option.some.inj hh] at e1
            cases hd : l.drop 2 with
            | nil => exact absurd hd hne
            | cons x t => rw [hd] at hg; rw [List.getLast?_cons_cons, List.getLast?_cons_cons, hg, ← e1]; rfl
        have hlen : ((l.drop 2).map dig).length ≤ 20 := by simp; omega
        have htd := digits_of _ 20 n k2 hlast hv hlen
        rw [k1] at htd
        have hpos := val_pos (by simpa using hne) hlast
        have hlt := val_lt _ k2
        obtain ⟨hn0, hn1⟩ := between _ _ _ hpos hlt hv
        apply h n (by omega)
        rw [decL_mid n hn0 hn1, htd]
        exact hl2
    · rfl
end Go.Proofs.YtlhgopdlpjmbhaaDoor
