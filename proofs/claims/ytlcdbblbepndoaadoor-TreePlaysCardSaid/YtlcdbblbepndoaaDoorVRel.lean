/- Plain mathematics of stage 9: a table of slots that holds each node's parent is a tree; what is done to one is done to the other; nothing of the program is walked; no condition but those that each row names. -/
import Derived.Test.YtlcdbblbepndoaaDoorVMath
import Derived.Test.YtlcdbblbepndoaaDoorSKeep
namespace Go.Proofs.YtlcdbblbepndoaaDoor
open Go.RowKit Tr

/-- The table, and the tree that it is. -/
structure Rel (A : Tab) (X : Sh) : Prop where
  good : A.Good
  tree : X.Good
  kind : A.kind = 1
  len : A.gens.length = 64
  g0 : A.g 0 = 1
  t : ∀ i, A.t i = X.t i
  v0 : A.v 0 = 0
  v : ∀ i, X.t i = true → i ≠ 0 → A.v i = A.hd (X.u i)

theorem Rel.lt {A : Tab} {X : Sh} (h : Rel A X) {i : Nat} (hi : X.t i = true) : i < A.gens.length := by have := h.tree.lt i hi; have := h.len; omega
theorem Rel.parts {A : Tab} {X : Sh} (h : Rel A X) {i : Nat} (hi : X.t i = true) : okH (A.hd i) ∧ kOf (A.hd i) = A.kind ∧ sOf (A.hd i) = i ∧ gOf (A.hd i) = A.g i := hd_parts h.good (h.lt hi) (by rw [h.t]; exact hi)
theorem Rel.inj {A : Tab} {X : Sh} (h : Rel A X) {i j : Nat} (hi : X.t i = true) (hj : X.t j = true) (e : A.hd i = A.hd j) : i = j := by
  have h1 := (h.parts hi).2.2.1
  have h2 := (h.parts hj).2.2.1
  rw [e] at h1
  omega
theorem Rel.ne0 {A : Tab} {X : Sh} (h : Rel A X) {i : Nat} (hi : X.t i = true) : A.hd i ≠ 0 := okH_ne (h.parts hi).1
theorem Rel.find {A : Tab} {X : Sh} (h : Rel A X) {i : Nat} (hi : X.t i = true) : A.find (A.hd i) = some i := by
  obtain ⟨h1, h2, h3, h4⟩ := h.parts hi
  exact find_some h.good (h.lt hi) (by rw [h.t]; exact hi) h1 h2 h3 h4
theorem Rel.found {A : Tab} {X : Sh} (h : Rel A X) {x : Int} {i : Nat} (hf : A.find x = some i) : X.t i = true ∧ A.hd i = x := by
  obtain ⟨_, h2, h3⟩ := find_inv hf
  rw [h.t] at h2
  exact ⟨h2, h3⟩
theorem Rel.get {A : Tab} {X : Sh} (h : Rel A X) {i : Nat} (hi : X.t i = true) : getV A (A.hd i) = A.v i := by unfold getV; rw [h.find hi]
theorem Rel.getN {A : Tab} {X : Sh} (h : Rel A X) {i : Nat} (hi : X.t i = true) : getN A (A.hd i) = 0 := by unfold Go.Proofs.YtlcdbblbepndoaaDoor.getN; rw [h.find hi]
theorem Rel.get_up {A : Tab} {X : Sh} (h : Rel A X) {i : Nat} (hi : X.t i = true) (h0 : i ≠ 0) : getV A (A.hd i) = A.hd (X.u i) := by rw [h.get hi, h.v i hi h0]
theorem Rel.get_0 {A : Tab} {X : Sh} (h : Rel A X) : getV A (A.hd 0) = 0 := by rw [h.get h.tree.t0, h.v0]
theorem Rel.root {A : Tab} {X : Sh} (h : Rel A X) : A.hd 0 = 1099511627777 := by
  unfold Tab.hd mkH
  rw [h.kind, h.g0]
  rfl
theorem Rel.idxs {A : Tab} {X : Sh} (h : Rel A X) : A.idxs = (List.range 64).filter X.t := by
  unfold Tab.idxs Tab.n
  rw [h.len]
  exact List.filter_congr fun i _ => h.t i
/-- The children, as the program finds them. -/
theorem Rel.kids {A : Tab} {X : Sh} (h : Rel A X) {i : Nat} (hi : X.t i = true) : A.all.filter (fun y => decide (getV A y = A.hd i)) = (X.kids i).map A.hd := by
  unfold Tab.all Sh.kids
  rw [List.filter_map, h.idxs, List.filter_filter]
  congr 1
  refine List.filter_congr fun k _ => ?_
  simp only [Function.comp]
  cases hk : X.t k with
  | false => simp [Sh.isKid, hk]
  | true =>
    by_cases e : k = 0
    · subst e
      rw [h.get_0]
      simpa [Sh.isKid] using fun e => h.ne0 hi (Eq.symm e)
    · rw [h.get_up hk e]
      have hu := (h.tree.up k hk e).1
      have : (A.hd (X.u k) = A.hd i) = (X.u k = i) := propext ⟨fun e => h.inj hu hi e, fun e => by rw [e]⟩
      simp [Sh.isKid, hk, e, this]

-- a node is added
theorem Rel.add {A : Tab} {X : Sh} (h : Rel A X) {p s : Nat} (hp : X.t p = true) (hd : X.d p + 1 ≤ 8) (hf : A.free = some s) : CanAdd X p s ∧ Rel (A.addAt s (A.hd p)) (X.add p s) := by
  obtain ⟨h1, h2, h3⟩ := fr_iff hf
  have hlen := h.len
  have c : CanAdd X p s := ⟨hp, by rw [← h.t]; exact h2, by omega, hd⟩
  have hhd : ∀ j, (A.addAt s (A.hd p)).hd j = A.hd j := fun _ => rfl
  refine ⟨c, Go.Proofs.YtlcdbblbepndoaaDoor.add_good h.good hf _, Tr.add_good h.tree c, h.kind, h.len, h.g0, fun i => ?_, ?_, fun i hi h0 => ?_⟩
  · rw [Go.Proofs.YtlcdbblbepndoaaDoor.add_t h.good h1]
    by_cases e : i = s
    · subst e; rw [if_pos rfl]; exact (Tr.add_ts X p i).symm
    · rw [if_neg fun k => e k.symm, h.t]; simp [Sh.add, e]
  · rw [add_v h.good h1, if_neg fun e => c.ne h.tree.t0 e.symm, h.v0]
  · rw [add_v h.good h1, hhd]
    by_cases e : i = s
    · subst e; rw [if_pos rfl, Tr.add_us]
    · rw [if_neg fun k => e k.symm, Tr.add_u e]
      simp [Sh.add, e] at hi
      exact h.v i hi h0

-- a part is removed
def dropAll (A : Tab) (l : List Nat) : Tab := l.foldl Tab.dropAt A
theorem dropAll_cons (A : Tab) (a : Nat) (l : List Nat) : dropAll A (a :: l) = dropAll (A.dropAt a) l := rfl
theorem dropAll_snoc (A : Tab) (a : Nat) (l : List Nat) : dropAll A (l ++ [a]) = (dropAll A l).dropAt a := by unfold dropAll; rw [List.foldl_append]; rfl
/-- Behind some drops. -/
structure Dropped (A A' : Tab) (l : List Nat) : Prop where
  good : A'.Good
  k : A'.kind = A.kind
  len : A'.gens.length = A.gens.length
  g : ∀ j, j ∉ l → A'.g j = A.g j
  t : ∀ j, A'.t j = if j ∈ l then false else A.t j
  v : ∀ j, j ∉ l → A'.v j = A.v j
theorem Dropped.hd {A A' : Tab} {l : List Nat} (h : Dropped A A' l) {j : Nat} (hj : j ∉ l) : A'.hd j = A.hd j := by unfold Tab.hd; rw [h.k, h.g j hj]
theorem Dropped.find {A A' : Tab} {l : List Nat} (h : Dropped A A' l) (hA : A.Good) {j : Nat} (hj : j ∉ l) (hlt : j < A.gens.length) (ht : A.t j = true) : A'.find (A.hd j) = some j := by
  obtain ⟨h1, h2, h3, h4⟩ := hd_parts hA hlt ht
  exact find_some h.good (by rw [h.len]; exact hlt) (by rw [h.t, if_neg hj]; exact ht) h1 (by rw [h.k]; exact h2) h3 (by rw [h.g j hj]; exact h4)
theorem Dropped.next {A A' : Tab} {l : List Nat} (h : Dropped A A' l) (hA : A.Good) {j : Nat} (hj : j ∉ l) (hlt : j < A.gens.length) (ht : A.t j = true) : Dropped A (A'.dropAt j) (l ++ [j]) := by
  have hf := h.find hA hj hlt ht
  have hl : j < A'.gens.length := by rw [h.len]; exact hlt
  refine ⟨drop_good h.good hf, h.k, by simp [Tab.dropAt, h.len], fun i hi => ?_, fun i => ?_, fun i hi => ?_⟩
  · simp only [List.mem_append, List.mem_singleton, not_or] at hi
    rw [drop_g hl, if_neg fun e => hi.2 e.symm, h.g i hi.1]
  · rw [drop_t h.good hl, h.t]
    by_cases e : i = j
    · subst e; simp
    · rw [if_neg fun k => e k.symm]; simp [e]
  · simp only [List.mem_append, List.mem_singleton, not_or] at hi
    rw [drop_v h.good hl, if_neg fun e => hi.2 e.symm, h.v i hi.1]
theorem Dropped.start {A : Tab} (hA : A.Good) : Dropped A A [] := ⟨hA, rfl, rfl, fun _ _ => rfl, fun j => by simp, fun _ _ => rfl⟩
/-- Each of a row that is taken out. -/
theorem dropped_take {A : Tab} (hA : A.Good) {l : List Nat} (hn : l.Nodup) (hl : ∀ x ∈ l, x < A.gens.length ∧ A.t x = true) : ∀ k, k ≤ l.length → Dropped A (dropAll A (l.take k)) (l.take k) := by
  intro k
  induction k with
  | zero => intro _; exact Dropped.start hA
  | succ k ih =>
    intro hk
    have hlt : k < l.length := by omega
    have e : l.take (k + 1) = l.take k ++ [l[k]] := List.take_succ_eq_append_getElem hlt
    have hm := hl l[k] (List.getElem_mem hlt)
    have hnot : l[k] ∉ l.take k := by
      intro hx
      obtain ⟨j, hj, ej⟩ := List.getElem_of_mem hx
      have hjk : j < k := by simp at hj; omega
      rw [List.getElem_take] at ej
      have := (List.getElem_inj hn).1 ej
      omega
    rw [e, dropAll_snoc]
    exact (ih (by omega)).next hA hnot hm.1 hm.2
theorem take_not {l : List Nat} (hn : l.Nodup) {k : Nat} (hk : k < l.length) : l[k] ∉ l.take k := by
  intro hx
  obtain ⟨j, hj, ej⟩ := List.getElem_of_mem hx
  have hjk : j < k := by simp at hj; omega
  rw [List.getElem_take] at ej
  have := (List.getElem_inj hn).1 ej
  omega
theorem Rel.remove {A : Tab} {X : Sh} (h : Rel A X) {i : Nat} (hi : X.t i = true) (h0 : i ≠ 0) : Rel (dropAll A (X.pt i)) (X.rem i) := by
  have hD := dropped_take h.good (pt_nodup h.tree i hi) (fun x hx => by
    have hx' := (pt_back h.tree i hi x hx).1
    exact ⟨h.lt hx', by rw [h.t]; exact hx'⟩) _ (Nat.le_refl _)
  rw [List.take_length] at hD
  have hz := (rem_t.1 (rem_good h.tree hi h0).t0).2
  refine ⟨hD.good, rem_good h.tree hi h0, by rw [hD.k]; exact h.kind, by rw [hD.len]; exact h.len, by rw [hD.g 0 hz]; exact h.g0, fun j => ?_, by rw [hD.v 0 hz]; exact h.v0, fun j hj hj0 => ?_⟩
  · rw [hD.t]
    by_cases e : j ∈ X.pt i
    · simp [Sh.rem, e]
    · simp [Sh.rem, e, h.t]
  · obtain ⟨h1, h2⟩ := rem_t.1 hj
    have hu := (rem_t.1 ((rem_good h.tree hi h0).up j hj hj0).1).2
    rw [hD.v j h2, h.v j h1 hj0]
    exact (hD.hd hu).symm

-- the root alone
def X0 : Sh := ⟨fun i => decide (i = 0), fun _ => 0, fun _ => 0⟩
theorem x0_good : X0.Good := ⟨rfl, rfl, fun i hi => by simp [X0] at hi; omega, fun i hi h0 => by simp [X0] at hi; exact absurd hi h0, fun i hi => by simp [X0]⟩
theorem new_free : (Tab.new 1 64).free = some 0 := by
  refine firstIn_some (fun j hj => by omega) (by simp [Tab.n, Tab.new]) ?_
  simp [Tab.fr, Tab.t, Tab.g, Tab.new]
theorem new_rel : Rel ((Tab.new 1 64).addAt 0 0) X0 := by
  have hg := new_good (kind := 1) (n := 64) (by omega) (by omega) (by omega) (by omega)
  have hl : 0 < (Tab.new 1 64).gens.length := by simp [Tab.new]
  refine ⟨Go.Proofs.YtlcdbblbepndoaaDoor.add_good hg new_free 0, x0_good, rfl, by simp [Tab.addAt, Tab.new], by simp [Tab.g, Tab.addAt, Tab.new], fun i => ?_, ?_, fun i hi h0 => by simp [X0] at hi; exact absurd hi h0⟩
  · rw [Go.Proofs.YtlcdbblbepndoaaDoor.add_t hg hl]
    have : (Tab.new 1 64).t i = false := by
      unfold Tab.t Tab.new
      simp only [List.getD_eq_getElem?_getD, List.getElem?_replicate]
      split <;> rfl
    rw [this]
    by_cases e : i = 0
    · subst e; rfl
    · rw [if_neg fun k => e k.symm]; simp [X0, e]
  · rw [add_v hg hl, if_pos rfl]
theorem pt_x0 : X0.pt 0 = [0] := by
  rw [pt_eq x0_good rfl]
  have : X0.kids 0 = [] := by
    rw [List.eq_nil_iff_forall_not_mem]
    intro k hk
    obtain ⟨h1, h2, _⟩ := (mem_kids x0_good).1 hk
    simp [X0] at h1
    exact h2 h1
  rw [this]; rfl
/-- Is there room? -/
theorem free_lt {A : Tab} {X : Sh} (h : Rel A X) {s : Nat} (hf : A.free = some s) : s < 64 := by have := (fr_iff hf).1; have := h.len; omega
end Go.Proofs.YtlcdbblbepndoaaDoor
