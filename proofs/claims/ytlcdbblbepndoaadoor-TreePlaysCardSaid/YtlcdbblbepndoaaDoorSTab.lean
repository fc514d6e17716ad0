/- Plain mathematics for stage 3: a table of slots with generations, what is done to it, what is told; nothing of the program; no condition. -/
import Derived.Test.YtlcdbblbepndoaaDoorHMath
namespace Go.Proofs.YtlcdbblbepndoaaDoor
open Go.RowKit

/-- A table: its kind; of each slot its generation, whether it is taken, its thing. -/
structure Tab where
  kind : Int
  gens : List Int
  taken : List Bool
  list : List Int

def Tab.n (A : Tab) : Nat := A.gens.length
def Tab.g (A : Tab) (i : Nat) : Int := A.gens.getD i 0
def Tab.t (A : Tab) (i : Nat) : Bool := A.taken.getD i false
def Tab.v (A : Tab) (i : Nat) : Int := A.list.getD i 0

/-- What always holds of one. -/
structure Tab.Good (A : Tab) : Prop where
  k1 : 1 ≤ A.kind
  k3 : A.kind ≤ 3
  n1 : 1 ≤ A.gens.length
  n4 : A.gens.length ≤ 4096
  lt : A.taken.length = A.gens.length
  ll : A.list.length = A.gens.length
  g1 : ∀ i, i < A.gens.length → 1 ≤ A.g i ∧ A.g i ≤ 1024
  gt : ∀ i, i < A.gens.length → A.t i = true → A.g i ≤ 1023

/-- Can slot i be given? -/
def Tab.fr (A : Tab) (i : Nat) : Bool := !A.t i && decide (A.g i ≤ 1023)
def Tab.hd (A : Tab) (i : Nat) : Int := mkH A.kind i (A.g i)
/-- Is slot i that of a handle? -/
def Tab.is (A : Tab) (h : Int) (i : Nat) : Bool := A.t i && decide (A.hd i = h)

def firstIn (p : Nat → Bool) (n : Nat) : Option Nat := (List.range n).find? p
theorem firstIn_some {p : Nat → Bool} {n k : Nat} (h : ∀ j, j < k → p j = false) (hk : k < n) (hp : p k = true) : firstIn p n = some k := by
  unfold firstIn
  rw [List.find?_eq_some_iff_getElem]
  refine ⟨hp, k, by simpa using hk, by simp, fun j hj => ?_⟩
  simp [h j hj]
theorem firstIn_none {p : Nat → Bool} {n : Nat} (h : ∀ j, j < n → p j = false) : firstIn p n = none := by
  unfold firstIn
  rw [List.find?_eq_none]
  intro x hx
  simp [h x (List.mem_range.1 hx)]
theorem firstIn_inv {p : Nat → Bool} {n k : Nat} (h : firstIn p n = some k) : k < n ∧ p k = true := by
  unfold firstIn at h
  exact ⟨by simpa using List.mem_of_find?_eq_some h, List.find?_some h⟩
theorem firstIn_inv_none {p : Nat → Bool} {n : Nat} (h : firstIn p n = none) : ∀ j, j < n → p j = false := by
  unfold firstIn at h
  rw [List.find?_eq_none] at h
  intro j hj
  simpa using h j (List.mem_range.2 hj)

def Tab.free (A : Tab) : Option Nat := firstIn A.fr A.n
def Tab.find (A : Tab) (h : Int) : Option Nat := firstIn (A.is h) A.n
def Tab.idxs (A : Tab) : List Nat := (List.range A.n).filter A.t
def Tab.all (A : Tab) : List Int := A.idxs.map A.hd

/-- A new one. -/
def Tab.new (kind : Int) (n : Nat) : Tab := ⟨kind, List.replicate n 1, List.replicate n false, List.replicate n 0⟩
def Tab.addAt (A : Tab) (i : Nat) (v : Int) : Tab := { A with taken := A.taken.set i true, list := A.list.set i v }
def Tab.setAt (A : Tab) (i : Nat) (v : Int) : Tab := { A with list := A.list.set i v }
def Tab.dropAt (A : Tab) (i : Nat) : Tab := { A with gens := A.gens.set i (A.g i + 1), taken := A.taken.set i false, list := A.list.set i 0 }

theorem getD_set {α : Type} (l : List α) (i j : Nat) (a d : α) (h : i < l.length) : (l.set i a).getD j d = if i = j then a else l.getD j d := by
  simp only [List.getD_eq_getElem?_getD, List.getElem?_set]
  by_cases e : i = j
  · subst e; simp [h]
  · simp [e]

theorem new_good {kind : Int} {n : Nat} (h1 : 1 ≤ kind) (h3 : kind ≤ 3) (n1 : 1 ≤ n) (n4 : n ≤ 4096) : (Tab.new kind n).Good := by
  refine ⟨h1, h3, by simpa [Tab.new] using n1, by simpa [Tab.new] using n4, by simp [Tab.new], by simp [Tab.new], fun i hi => ?_, fun i hi ht => ?_⟩
  · simp only [Tab.new, List.length_replicate] at hi
    simp [Tab.g, Tab.new, List.getD_eq_getElem?_getD, hi]
  · simp only [Tab.new, List.length_replicate] at hi
    simp [Tab.g, Tab.new, List.getD_eq_getElem?_getD, hi]

theorem add_good {A : Tab} (h : A.Good) {i : Nat} (hi : A.free = some i) (v : Int) : (A.addAt i v).Good := by
  obtain ⟨hlt, hf⟩ := firstIn_inv hi
  have hlt' : i < A.gens.length := hlt
  have hg : A.g i ≤ 1023 := by unfold Tab.fr at hf; simp at hf; exact hf.2
  refine ⟨h.k1, h.k3, h.n1, h.n4, by simp [Tab.addAt, h.lt], by simp [Tab.addAt, h.ll], h.g1, fun j hj ht => ?_⟩
  show A.g j ≤ 1023
  by_cases e : i = j
  · subst e; exact hg
  · refine h.gt j hj ?_
    have : (A.addAt i v).t j = A.t j := by unfold Tab.t Tab.addAt; rw [getD_set _ _ _ _ _ (by rw [h.lt]; exact hlt'), if_neg e]
    rw [← this]; exact ht
theorem set_good {A : Tab} (h : A.Good) (i : Nat) (v : Int) : (A.setAt i v).Good :=
  ⟨h.k1, h.k3, h.n1, h.n4, h.lt, by simp [Tab.setAt, h.ll], h.g1, h.gt⟩
theorem drop_good {A : Tab} (h : A.Good) {i : Nat} {x : Int} (hi : A.find x = some i) : (A.dropAt i).Good := by
  obtain ⟨hlt, hf⟩ := firstIn_inv hi
  have hlt' : i < A.gens.length := hlt
  have ht : A.t i = true := by unfold Tab.is at hf; simp at hf; exact hf.1
  have hg := h.gt i hlt' ht
  have hg1 := (h.g1 i hlt').1
  have eg : ∀ j, (A.dropAt i).g j = if i = j then A.g i + 1 else A.g j := fun j => by unfold Tab.g Tab.dropAt; exact getD_set _ _ _ _ _ hlt'
  have et : ∀ j, (A.dropAt i).t j = if i = j then false else A.t j := fun j => by unfold Tab.t Tab.dropAt; exact getD_set _ _ _ _ _ (by rw [h.lt]; exact hlt')
  have el : (A.dropAt i).gens.length = A.gens.length := by simp [Tab.dropAt]
  refine ⟨h.k1, h.k3, by rw [el]; exact h.n1, by rw [el]; exact h.n4, by rw [el]; simp [Tab.dropAt, h.lt], by rw [el]; simp [Tab.dropAt, h.ll], fun j hj => ?_, fun j hj htj => ?_⟩
  · rw [el] at hj
    rw [eg]
    split
    · omega
    · exact h.g1 j hj
  · rw [el] at hj
    rw [et] at htj
    rw [eg]
    by_cases e : i = j
    · rw [if_pos e] at htj; cases htj
    · rw [if_neg e] at htj ⊢; exact h.gt j hj htj

/-- A handle's slot is that of its parts. -/
theorem hd_parts {A : Tab} (h : A.Good) {i : Nat} (hi : i < A.gens.length) (ht : A.t i = true) : okH (A.hd i) ∧ kOf (A.hd i) = A.kind ∧ sOf (A.hd i) = i ∧ gOf (A.hd i) = A.g i := by
  have hp : okP A.kind i (A.g i) := ⟨h.k1, h.k3, by omega, by have := h.n4; omega, (h.g1 i hi).1, h.gt i hi ht⟩
  exact ⟨ok_mk hp, of_mk hp⟩
theorem is_iff {A : Tab} (h : A.Good) (x : Int) {i : Nat} (hi : i < A.gens.length) : A.is x i = true ↔ A.t i = true ∧ okH x ∧ kOf x = A.kind ∧ sOf x = i ∧ gOf x = A.g i := by
  unfold Tab.is
  rw [Bool.and_eq_true, decide_eq_true_eq]
  constructor
  · rintro ⟨ht, rfl⟩
    exact ⟨ht, hd_parts h hi ht⟩
  · rintro ⟨ht, hok, h1, h2, h3⟩
    refine ⟨ht, ?_⟩
    unfold Tab.hd
    rw [← h1, ← h2, ← h3]
    exact mk_of x
/-- What a handle names: the slot that its parts tell, if that is taken and of that generation. -/
theorem find_some {A : Tab} (h : A.Good) {x : Int} {i : Nat} (hi : i < A.gens.length) (ht : A.t i = true) (hok : okH x) (h1 : kOf x = A.kind) (h2 : sOf x = i) (h3 : gOf x = A.g i) : A.find x = some i := by
  refine firstIn_some (fun j hj => ?_) hi ((is_iff h x hi).2 ⟨ht, hok, h1, h2, h3⟩)
  rw [Bool.eq_false_iff]
  intro k
  obtain ⟨_, _, _, h2', _⟩ := (is_iff h x (by omega)).1 k
  omega
theorem find_none {A : Tab} (h : A.Good) {x : Int} (hn : ∀ i, i < A.gens.length → A.t i = true → okH x → kOf x = A.kind → sOf x = i → gOf x ≠ A.g i) : A.find x = none := by
  refine firstIn_none fun j hj => ?_
  rw [Bool.eq_false_iff]
  intro k
  obtain ⟨h0, h1, h2, h3, h4⟩ := (is_iff h x hj).1 k
  exact hn j hj h0 h1 h2 h3 h4
end Go.Proofs.YtlcdbblbepndoaaDoor
