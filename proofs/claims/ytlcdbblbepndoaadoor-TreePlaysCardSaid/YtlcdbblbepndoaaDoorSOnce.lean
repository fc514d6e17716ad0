/- Plain mathematics for stage 3: no handle is given twice, what is dropped is not good again, how many are taken; nothing of the program; no condition. -/
import Derived.Test.YtlcdbblbepndoaaDoorSTab
namespace Go.Proofs.YtlcdbblbepndoaaDoor
open Go.RowKit

theorem count_more {p q : Nat → Bool} {i : Nat} (hp : p i = false) (hq : q i = true) (hj : ∀ j, j ≠ i → q j = p j) : ∀ n, ((List.range n).filter q).length = ((List.range n).filter p).length + if i < n then 1 else 0 := by
  intro n
  induction n with
  | zero => simp
  | succ n ih =>
    rw [List.range_succ, List.filter_append, List.filter_append, List.length_append, List.length_append, ih]
    by_cases e : n = i
    · subst e
      simp [hp, hq]
    · have hle : (i < n + 1) = (i < n) := propext ⟨fun h => by omega, fun h => by omega⟩
      simp only [hle]
      have hqn := hj n e
      cases hpn : p n <;> simp [hqn, hpn] <;> omega

theorem add_t {A : Tab} (h : A.Good) {i : Nat} (hi : i < A.gens.length) (v : Int) (j : Nat) : (A.addAt i v).t j = if i = j then true else A.t j := by
  unfold Tab.t Tab.addAt; exact getD_set _ _ _ _ _ (by rw [h.lt]; exact hi)
theorem drop_t {A : Tab} (h : A.Good) {i : Nat} (hi : i < A.gens.length) (j : Nat) : (A.dropAt i).t j = if i = j then false else A.t j := by
  unfold Tab.t Tab.dropAt; exact getD_set _ _ _ _ _ (by rw [h.lt]; exact hi)
theorem drop_g {A : Tab} {i : Nat} (hi : i < A.gens.length) (j : Nat) : (A.dropAt i).g j = if i = j then A.g i + 1 else A.g j := by
  unfold Tab.g Tab.dropAt; exact getD_set _ _ _ _ _ hi
theorem add_g {A : Tab} (i : Nat) (v : Int) (j : Nat) : (A.addAt i v).g j = A.g j := rfl
theorem add_v {A : Tab} (h : A.Good) {i : Nat} (hi : i < A.gens.length) (v : Int) (j : Nat) : (A.addAt i v).v j = if i = j then v else A.v j := by
  unfold Tab.v Tab.addAt; exact getD_set _ _ _ _ _ (by rw [h.ll]; exact hi)
theorem set_v {A : Tab} (h : A.Good) {i : Nat} (hi : i < A.gens.length) (v : Int) (j : Nat) : (A.setAt i v).v j = if i = j then v else A.v j := by
  unfold Tab.v Tab.setAt; exact getD_set _ _ _ _ _ (by rw [h.ll]; exact hi)
theorem drop_v {A : Tab} (h : A.Good) {i : Nat} (hi : i < A.gens.length) (j : Nat) : (A.dropAt i).v j = if i = j then 0 else A.v j := by
  unfold Tab.v Tab.dropAt; exact getD_set _ _ _ _ _ (by rw [h.ll]; exact hi)

theorem fr_iff {A : Tab} {i : Nat} (hi : A.free = some i) : i < A.gens.length ∧ A.t i = false ∧ A.g i ≤ 1023 := by
  obtain ⟨h1, h2⟩ := firstIn_inv hi
  unfold Tab.fr at h2
  simp at h2
  exact ⟨h1, h2.1, h2.2⟩
theorem find_inv {A : Tab} {x : Int} {i : Nat} (hi : A.find x = some i) : i < A.gens.length ∧ A.t i = true ∧ A.hd i = x := by
  obtain ⟨h1, h2⟩ := firstIn_inv hi
  unfold Tab.is at h2
  simp at h2
  exact ⟨h1, h2.1, h2.2⟩
theorem add_len {A : Tab} (h : A.Good) {i : Nat} (hi : A.free = some i) (v : Int) : (A.addAt i v).idxs.length = A.idxs.length + 1 := by
  obtain ⟨h1, h2, _⟩ := fr_iff hi
  have := count_more (p := A.t) (q := (A.addAt i v).t) h2 (by rw [add_t h h1, if_pos rfl]) (fun j hj => by rw [add_t h h1, if_neg fun e => hj e.symm]) A.gens.length
  rw [if_pos h1] at this
  exact this
theorem drop_len {A : Tab} (h : A.Good) {x : Int} {i : Nat} (hi : A.find x = some i) : (A.dropAt i).idxs.length + 1 = A.idxs.length := by
  obtain ⟨h1, h2, _⟩ := find_inv hi
  have := count_more (p := (A.dropAt i).t) (q := A.t) (by rw [drop_t h h1, if_pos rfl]) h2 (fun j hj => by rw [drop_t h h1, if_neg fun e => hj e.symm]) A.gens.length
  rw [if_pos h1] at this
  have e : (A.dropAt i).idxs = (List.range A.gens.length).filter (A.dropAt i).t := by unfold Tab.idxs Tab.n; simp [Tab.dropAt]
  rw [e]
  exact this.symm
theorem all_len (A : Tab) : A.all.length = A.idxs.length := by unfold Tab.all; simp

/-- A handle that was given: of a generation that is gone, or of the one that is taken. -/
def Old (A : Tab) (x : Int) : Prop := okH x ∧ kOf x = A.kind ∧ ∃ i : Nat, i < A.gens.length ∧ sOf x = i ∧ (gOf x < A.g i ∨ (gOf x = A.g i ∧ A.t i = true))
/-- One that was dropped. -/
def Gone (A : Tab) (x : Int) : Prop := okH x ∧ kOf x = A.kind ∧ ∃ i : Nat, i < A.gens.length ∧ sOf x = i ∧ gOf x < A.g i
theorem gone_find {A : Tab} (h : A.Good) {x : Int} (hx : Gone A x) : A.find x = none := by
  obtain ⟨_, _, i, hi, hs, hg⟩ := hx
  refine find_none h fun j hj _ _ _ hsj hgj => ?_
  have : j = i := by omega
  subst this
  omega
theorem new_hd {A : Tab} (h : A.Good) {i : Nat} (hi : A.free = some i) : okH (A.hd i) ∧ kOf (A.hd i) = A.kind ∧ sOf (A.hd i) = i ∧ gOf (A.hd i) = A.g i := by
  obtain ⟨h1, _, h3⟩ := fr_iff hi
  have hp : okP A.kind i (A.g i) := ⟨h.k1, h.k3, by omega, by have := h.n4; omega, (h.g1 i h1).1, h3⟩
  exact ⟨ok_mk hp, of_mk hp⟩
theorem old_ne {A : Tab} (h : A.Good) {i : Nat} (hi : A.free = some i) {x : Int} (hx : Old A x) : x ≠ A.hd i := by
  obtain ⟨_, _, j, hj, hs, hg⟩ := hx
  obtain ⟨_, _, n3, n4⟩ := new_hd h hi
  obtain ⟨_, h2, _⟩ := fr_iff hi
  rintro rfl
  have : j = i := by omega
  subst this
  rcases hg with hg | ⟨_, hg⟩
  · omega
  · rw [h2] at hg; cases hg
theorem old_new {A : Tab} (h : A.Good) {i : Nat} (hi : A.free = some i) (v : Int) : Old (A.addAt i v) (A.hd i) := by
  obtain ⟨n1, n2, n3, n4⟩ := new_hd h hi
  obtain ⟨h1, _, _⟩ := fr_iff hi
  exact ⟨n1, n2, i, h1, n3, .inr ⟨n4, by rw [add_t h h1, if_pos rfl]⟩⟩
theorem old_add {A : Tab} (h : A.Good) {i : Nat} (hi : A.free = some i) (v : Int) {x : Int} (hx : Old A x) : Old (A.addAt i v) x := by
  obtain ⟨a, b, j, hj, hs, hg⟩ := hx
  obtain ⟨h1, h2, _⟩ := fr_iff hi
  refine ⟨a, b, j, hj, hs, ?_⟩
  rcases hg with hg | ⟨hg, ht⟩
  · exact .inl hg
  · refine .inr ⟨hg, ?_⟩
    rw [add_t h h1]
    split
    · rfl
    · exact ht
theorem gone_add {A : Tab} {i : Nat} (v : Int) {x : Int} (hx : Gone A x) : Gone (A.addAt i v) x := hx
theorem old_drop {A : Tab} (h : A.Good) {y : Int} {i : Nat} (hi : A.find y = some i) {x : Int} (hx : Old A x) : Old (A.dropAt i) x := by
  obtain ⟨a, b, j, hj, hs, hg⟩ := hx
  obtain ⟨h1, _, _⟩ := find_inv hi
  refine ⟨a, b, j, by simpa [Tab.dropAt] using hj, hs, ?_⟩
  rw [drop_g h1, drop_t h h1]
  by_cases e : i = j
  · subst e
    rw [if_pos rfl]
    left
    rcases hg with hg | ⟨hg, _⟩ <;> omega
  · rw [if_neg e, if_neg e]; exact hg
theorem gone_drop {A : Tab} {y : Int} {i : Nat} (hi : A.find y = some i) {x : Int} (hx : Gone A x) : Gone (A.dropAt i) x := by
  obtain ⟨a, b, j, hj, hs, hg⟩ := hx
  obtain ⟨h1, _, _⟩ := find_inv hi
  refine ⟨a, b, j, by simpa [Tab.dropAt] using hj, hs, ?_⟩
  rw [drop_g h1]
  by_cases e : i = j
  · subst e; rw [if_pos rfl]; omega
  · rw [if_neg e]; exact hg
theorem gone_new {A : Tab} (h : A.Good) {y : Int} {i : Nat} (hi : A.find y = some i) : Gone (A.dropAt i) y := by
  obtain ⟨h1, h2, rfl⟩ := find_inv hi
  obtain ⟨n1, n2, n3, n4⟩ := hd_parts h h1 h2
  exact ⟨n1, n2, i, by simpa [Tab.dropAt] using h1, n3, by rw [drop_g h1, if_pos rfl, n4]; omega⟩
end Go.Proofs.YtlcdbblbepndoaaDoor
