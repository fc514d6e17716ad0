/- The order in which children would be picked: by insertion, and that there is one such order; nothing of the program is walked; no condition but those that each row names. -/
import Derived.Test.YtfahpjilgdlhiaaWIts
import Derived.Test.YtfahpjilgdlhiaaWPlan
namespace Go.Proofs.Ytfahpjilgdlhiaa
namespace Edf
/-- One more place, laid where it belongs. -/
def insL (c : Nat → Tri) (i : Nat) : List Nat → List Nat
  | [] => [i]
  | x :: r => if Ahead c x i then x :: insL c i r else i :: x :: r
/-- The places of the first n that have a budget, in their order. -/
def ordL (c : Nat → Tri) : Nat → List Nat
  | 0 => []
  | n + 1 => if 0 < (c n).b then insL c n (ordL c n) else ordL c n
/-- The places of the first n that have a budget. -/
def plcs (c : Nat → Tri) : Nat → List Nat
  | 0 => []
  | n + 1 => if 0 < (c n).b then plcs c n ++ [n] else plcs c n
theorem insL_perm {c : Nat → Tri} {i : Nat} : ∀ l, (insL c i l).Perm (i :: l)
  | [] => .refl _
  | x :: r => by
    simp only [insL]
    split
    · exact ((insL_perm r).cons x).trans (.swap i x r)
    · exact .refl _
theorem ordL_perm {c : Nat → Tri} : ∀ n, (ordL c n).Perm (plcs c n)
  | 0 => .refl _
  | n + 1 => by
    simp only [ordL, plcs]
    split
    · exact (insL_perm _).trans (((ordL_perm n).cons n).trans (List.perm_append_singleton n (plcs c n)).symm)
    · exact ordL_perm n
theorem plcs_mem {c : Nat → Tri} {x : Nat} : ∀ {n}, x ∈ plcs c n ↔ x < n ∧ 0 < (c x).b
  | 0 => by simp [plcs]
  | n + 1 => by
    simp only [plcs]
    split
    · rename_i h
      rw [List.mem_append, plcs_mem, List.mem_singleton]
      refine ⟨fun k => ?_, fun k => ?_⟩
      · rcases k with k | rfl
        · exact ⟨by omega, k.2⟩
        · exact ⟨by omega, h⟩
      · by_cases e : x = n
        · exact .inr e
        · exact .inl ⟨by omega, k.2⟩
    · rename_i h
      rw [plcs_mem]
      refine ⟨fun k => ⟨by omega, k.2⟩, fun k => ⟨?_, k.2⟩⟩
      by_cases e : x = n
      · subst e; exact absurd k.2 h
      · omega
theorem ordL_mem {c : Nat → Tri} {x n : Nat} : x ∈ ordL c n ↔ x < n ∧ 0 < (c x).b := (ordL_perm n).mem_iff.trans plcs_mem
theorem plcs_len {c : Nat → Tri} : ∀ n, (plcs c n).length ≤ n
  | 0 => Nat.le_refl _
  | n + 1 => by
    have := plcs_len (c := c) n
    simp only [plcs]
    split
    · simp; omega
    · omega
theorem ordL_len {c : Nat → Tri} (n : Nat) : (ordL c n).length ≤ n := (ordL_perm n).length_eq ▸ plcs_len n
theorem insL_sorted {c : Nat → Tri} {i : Nat} : ∀ {l : List Nat}, l.Pairwise (Ahead c) → i ∉ l → (insL c i l).Pairwise (Ahead c)
  | [], _, _ => by simp [insL]
  | x :: r, h, hi => by
    obtain ⟨h1, h2⟩ := List.pairwise_cons.1 h
    simp only [insL]
    split
    · rename_i ha
      refine List.pairwise_cons.2 ⟨fun y hy => ?_, insL_sorted h2 (fun k => hi (by simp [k]))⟩
      rcases List.mem_cons.1 ((insL_perm r).mem_iff.1 hy) with rfl | hy
      · exact ha
      · exact h1 y hy
    · rename_i ha
      have hx : Ahead c i x := by
        rcases ahead_neg ha with e | e
        · subst e; simp at hi
        · exact e
      refine List.pairwise_cons.2 ⟨fun y hy => ?_, h⟩
      rcases List.mem_cons.1 hy with rfl | hy
      · exact hx
      · exact ahead_trans hx (h1 y hy)
theorem ordL_sorted {c : Nat → Tri} : ∀ n, (ordL c n).Pairwise (Ahead c)
  | 0 => .nil
  | n + 1 => by
    simp only [ordL]
    split
    · exact insL_sorted (ordL_sorted n) (fun k => by have := (ordL_mem.1 k).1; omega)
    · exact ordL_sorted n
/-- How many are ahead of it. -/
def cutL (c : Nat → Tri) (i : Nat) : List Nat → Nat
  | [] => 0
  | x :: r => if Ahead c x i then cutL c i r + 1 else 0
theorem cutL_le {c : Nat → Tri} {i : Nat} : ∀ l, cutL c i l ≤ l.length
  | [] => Nat.le_refl _
  | x :: r => by
    have := cutL_le (c := c) (i := i) r
    simp only [cutL, List.length_cons]
    split <;> omega
theorem insL_cut {c : Nat → Tri} {i : Nat} : ∀ l, insL c i l = l.take (cutL c i l) ++ i :: l.drop (cutL c i l)
  | [] => rfl
  | x :: r => by
    simp only [insL, cutL]
    split
    · rw [insL_cut r]; rfl
    · rfl
theorem cutL_ahead {c : Nat → Tri} {i : Nat} : ∀ {l : List Nat} {j : Nat}, j < cutL c i l → ∀ h : j < l.length, Ahead c l[j] i
  | [], j, hj, h => by simp at h
  | x :: r, j, hj, h => by
    simp only [cutL] at hj
    split at hj
    · rename_i ha
      cases j with
      | zero => exact ha
      | succ j => exact cutL_ahead (l := r) (by omega) (by simpa using h)
    · omega
theorem cutL_stop {c : Nat → Tri} {i : Nat} : ∀ {l : List Nat} (h : cutL c i l < l.length), ¬ Ahead c l[cutL c i l] i
  | [], h => by simp at h
  | x :: r, h => by
    by_cases ha : Ahead c x i
    · have e : cutL c i (x :: r) = cutL c i r + 1 := if_pos ha
      have h2 : cutL c i r < r.length := by rw [e] at h; simpa using h
      have := cutL_stop (l := r) h2
      simp only [e, List.getElem_cons_succ]
      exact this
    · have e : cutL c i (x :: r) = 0 := if_neg ha
      simp only [e, List.getElem_cons_zero]
      exact ha
/-- There is one such order. -/
theorem ord_same {c : Nat → Tri} : ∀ {l l' : List Nat}, l.Pairwise (fun x y => x = y ∨ Ahead c x y) → l'.Pairwise (fun x y => x = y ∨ Ahead c x y) → l.Perm l' → l = l'
  | [], l', _, _, hp => hp.nil_eq
  | x :: r, [], _, _, hp => absurd hp.symm.nil_eq (by simp)
  | x :: r, y :: r', h, h', hp => by
    have hx : x ∈ y :: r' := hp.mem_iff.1 (by simp)
    have hy : y ∈ x :: r := hp.mem_iff.2 (by simp)
    have e : x = y := by
      rcases List.mem_cons.1 hx with e | hx
      · exact e
      · rcases List.mem_cons.1 hy with e | hy
        · exact e.symm
        · rcases (List.pairwise_cons.1 h).1 y hy with e | h1
          · exact e
          · rcases (List.pairwise_cons.1 h').1 x hx with e | h2
            · exact e.symm
            · exact (ahead_irrefl (ahead_trans h1 h2)).elim
    subst e
    rw [ord_same (List.pairwise_cons.1 h).2 (List.pairwise_cons.1 h').2 hp.cons_inv]
/-- The children, when the first k of L were picked. -/
def picked (c : Nat → Tri) (L : List Nat) (k : Nat) (i : Nat) : Tri := if i ∈ L.take k then ⟨(c i).a, 0, (c i).c⟩ else c i
theorem picked_ahead {c : Nat → Tri} {L : List Nat} {k x y : Nat} : Ahead (picked c L k) x y ↔ Ahead c x y := by
  have e : ∀ i, (picked c L k i).a = (c i).a ∧ (picked c L k i).c = (c i).c := fun i => by unfold picked; split <;> exact ⟨rfl, rfl⟩
  unfold Ahead
  rw [(e x).1, (e x).2, (e y).1, (e y).2]
theorem pick_at {c : Nat → Tri} {n k : Nat} (hk : k < (ordL c n).length) : pick (picked c (ordL c n) k) n = some (ordL c n)[k] := by
  have hs := ordL_sorted (c := c) n
  have hm := fun x => ordL_mem (c := c) (x := x) (n := n)
  generalize ordL c n = L at *
  have hp := List.pairwise_iff_getElem.1 hs
  obtain ⟨x1, x2⟩ := (hm L[k]).1 (List.getElem_mem hk)
  have hn : L[k] ∉ L.take k := fun h => by
    obtain ⟨j, hj, e⟩ := List.getElem_of_mem h
    have hj' : j < k := by simp at hj; omega
    rw [List.getElem_take] at e
    have := hp j k (by omega) hk hj'
    rw [e] at this
    exact ahead_irrefl this
  refine pick_iff x1 (by unfold picked; rw [if_neg hn]; exact x2) fun i hi hb => ?_
  have hni : i ∉ L.take k := fun h => by unfold picked at hb; rw [if_pos h] at hb; exact absurd hb (by simp)
  unfold picked at hb
  rw [if_neg hni] at hb
  obtain ⟨j, hj, e⟩ := List.getElem_of_mem ((hm i).2 ⟨hi, hb⟩)
  have hjk : ¬ j < k := fun h => hni (by rw [List.mem_take_iff_getElem]; exact ⟨j, by omega, e⟩)
  by_cases ejk : j = k
  · subst ejk; exact .inl e.symm
  · refine .inr (picked_ahead.2 ?_)
    rw [← e]
    exact hp k j hk hj (by omega)
theorem pick_end {c : Nat → Tri} {n : Nat} : pick (picked c (ordL c n) (ordL c n).length) n = none := by
  refine pick_none_of fun i hi hb => ?_
  by_cases h : i ∈ ordL c n
  · unfold picked at hb
    rw [List.take_length, if_pos h] at hb
    exact absurd hb (by simp)
  · unfold picked at hb
    rw [List.take_length, if_neg h] at hb
    exact h (ordL_mem.2 ⟨hi, hb⟩)
theorem picked_zero {c : Nat → Tri} {L : List Nat} : picked c L 0 = c := by funext i; unfold picked; rw [List.take_zero, if_neg (by simp)]
theorem picked_succ {c : Nat → Tri} {L : List Nat} {k : Nat} (hk : k < L.length) : upd (picked c L k) L[k] ⟨(picked c L k L[k]).a, 0, (picked c L k L[k]).c⟩ = picked c L (k + 1) := by
  funext i
  unfold upd
  by_cases e : i = L[k]
  · subst e
    rw [if_pos rfl]
    have h1 : L[k] ∈ L.take (k + 1) := by rw [List.mem_take_iff_getElem]; exact ⟨k, by omega, rfl⟩
    have e2 : (picked c L k L[k]).a = (c L[k]).a ∧ (picked c L k L[k]).c = (c L[k]).c := by unfold picked; split <;> exact ⟨rfl, rfl⟩
    unfold picked at e2 ⊢
    rw [if_pos h1, e2.1, e2.2]
  · rw [if_neg e]
    unfold picked
    have : i ∈ L.take (k + 1) ↔ i ∈ L.take k := by
      rw [List.take_add_one, List.mem_append, List.getElem?_eq_getElem hk]
      simp [e]
    simp only [this]
end Edf
open Edf
/-- A list of places as a function of the place. -/
def fnL (L : List Nat) (j : Nat) : Int := (L.getD j 0 : Nat)
theorem fnL_at {L : List Nat} {j : Nat} (h : j < L.length) : fnL L j = (L[j] : Nat) := by unfold fnL; simp [h]
theorem numL_fn (L : List Nat) : numL (fnL L) L.length = L.map fun k => Value.int .i64 (k : Nat) := by
  apply List.ext_getElem
  · rw [numL_len]; simp
  · intro j h1 h2
    rw [numL_len] at h1
    have e := lst_at (g := fun j => Value.int .i64 (fnL L j)) h1
    have e2 : (numL (fnL L) L.length)[j]? = some (.int .i64 (fnL L j)) := e
    rw [List.getElem?_eq_getElem (by rw [numL_len]; exact h1)] at e2
    rw [Option.some.inj e2, fnL_at h1]
    simp
theorem numL_app (A B : List Nat) : numL (fnL A) A.length ++ numL (fnL B) B.length = numL (fnL (A ++ B)) (A ++ B).length := by
  rw [numL_fn, numL_fn, numL_fn, List.map_append]
end Go.Proofs.Ytfahpjilgdlhiaa
