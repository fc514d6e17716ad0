/- Plain mathematics for stage 3: a table of slots and things that are told; nothing of the program; no condition. -/
import Derived.Test.YtlcdbblbepndoaaDoorSOnce
namespace Go.Proofs.YtlcdbblbepndoaaDoor
open Go.RowKit

/-- How many of the slots ahead are taken. -/
def rank (taken : List Bool) (i : Nat) : Nat := ((List.range i).filter fun j => taken.getD j false).length
theorem rank_0 (taken : List Bool) : rank taken 0 = 0 := rfl
theorem rank_succ (taken : List Bool) (i : Nat) : rank taken (i + 1) = rank taken i + if taken.getD i false = true then 1 else 0 := by
  unfold rank
  rw [List.range_succ, List.filter_append, List.length_append, List.filter_cons, List.filter_nil]
  generalize taken.getD i false = b
  cases b <;> rfl
theorem rank_mono (taken : List Bool) {i j : Nat} (h : i ≤ j) : rank taken i ≤ rank taken j := by
  induction j with
  | zero => have : i = 0 := by omega
            subst this; exact Nat.le_refl _
  | succ j ih =>
    by_cases e : i = j + 1
    · subst e; exact Nat.le_refl _
    · have := ih (by omega)
      rw [rank_succ]; omega
theorem rank_le (taken : List Bool) (i : Nat) : rank taken i ≤ i := by
  unfold rank
  have := List.length_filter_le (fun j => taken.getD j false) (List.range i)
  simpa using this

/-- May a slot be so? -/
def okG (gens : List Int) (taken : List Bool) (i : Nat) : Prop := 1 ≤ gens.getD i 0 ∧ gens.getD i 0 ≤ if taken.getD i false = true then 1023 else 1024
instance (gens : List Int) (taken : List Bool) (i : Nat) : Decidable (okG gens taken i) := by unfold okG; infer_instance
def fillL (n : Nat) (taken : List Bool) (things : List Int) : List Int := (List.range n).map fun i => if taken.getD i false = true then things.getD (rank taken i) 0 else 0
theorem fillL_len (n : Nat) (taken : List Bool) (things : List Int) : (fillL n taken things).length = n := by simp [fillL]
theorem fillL_at {n i : Nat} (taken : List Bool) (things : List Int) (h : i < n) : (fillL n taken things).getD i 0 = if taken.getD i false = true then things.getD (rank taken i) 0 else 0 := by
  simp [fillL, List.getD_eq_getElem?_getD, h]
def Tab.load (kind : Int) (gens : List Int) (taken : List Bool) (things : List Int) : Tab := ⟨kind, gens, taken, fillL gens.length taken things⟩
theorem load_good {kind : Int} {gens : List Int} {taken : List Bool} {things : List Int} (h1 : 1 ≤ kind) (h3 : kind ≤ 3) (n1 : 1 ≤ gens.length) (n4 : gens.length ≤ 4096) (ht : taken.length = gens.length)
    (hg : ∀ i, i < gens.length → okG gens taken i) : (Tab.load kind gens taken things).Good := by
  refine ⟨h1, h3, n1, n4, ht, by simp [Tab.load, fillL_len], fun i hi => ?_, fun i hi hti => ?_⟩
  · obtain ⟨a, b⟩ := hg i hi
    show 1 ≤ gens.getD i 0 ∧ gens.getD i 0 ≤ 1024
    split at b <;> omega
  · obtain ⟨a, b⟩ := hg i hi
    show gens.getD i 0 ≤ 1023
    rw [if_pos (show taken.getD i false = true from hti)] at b
    exact b

/-- Alike as far as it is told: the things of slots that are free don't count. -/
structure Alike (A B : Tab) : Prop where
  k : A.kind = B.kind
  g : A.gens = B.gens
  t : A.taken = B.taken
  l : A.list.length = B.list.length
  v : ∀ i, i < A.gens.length → A.t i = true → A.v i = B.v i
theorem Alike.refl (A : Tab) : Alike A A := ⟨rfl, rfl, rfl, rfl, fun _ _ _ => rfl⟩

theorem idxs_rank (A : Tab) {i : Nat} (hi : i < A.gens.length) (ht : A.t i = true) : A.idxs[rank A.taken i]? = some i := by
  unfold Tab.idxs Tab.n
  have e : List.range A.gens.length = List.range i ++ i :: (List.range' (i + 1) (A.gens.length - (i + 1))) := by
    have e2 : List.range' 0 (i + ((A.gens.length - (i + 1)) + 1)) = List.range' 0 i ++ List.range' (0 + i) ((A.gens.length - (i + 1)) + 1) := (List.range'_append_1 ..).symm
    rw [List.range_eq_range', List.range_eq_range']
    rw [show i + ((A.gens.length - (i + 1)) + 1) = A.gens.length by omega, List.range'_succ, Nat.zero_add] at e2
    exact e2
  rw [e, List.filter_append, List.filter_cons, if_pos (by simpa using ht)]
  have hr : rank A.taken i = ((List.range i).filter A.t).length := rfl
  rw [hr, List.getElem?_append_right (Nat.le_refl _)]
  simp
theorem idxs_count (A : Tab) : A.idxs.length = rank A.taken A.gens.length := rfl
/-- A table's slots and things told and loaded: the same table. -/
theorem load_all (A : Tab) (h : A.Good) : Alike (Tab.load A.kind A.gens A.taken (A.idxs.map A.v)) A := by
  refine ⟨rfl, rfl, rfl, by simp [Tab.load, fillL_len, h.ll], fun i hi ht => ?_⟩
  have hi' : i < A.gens.length := hi
  have ht' : A.taken.getD i false = true := ht
  show (fillL A.gens.length A.taken (A.idxs.map A.v)).getD i 0 = A.v i
  rw [fillL_at _ _ hi', if_pos ht', List.getD_eq_getElem?_getD, List.getElem?_map, idxs_rank A hi' ht]
  rfl
end Go.Proofs.YtlcdbblbepndoaaDoor
