/- The document's calendar keeps its order: what is in it behind Put, Drop, Due; nothing of the program is walked; no condition but those that each row names. -/
import Derived.Test.YtknhjbfhkfngeaaNPair
namespace Go.Proofs.Ytknhjbfhkfngeaa
namespace Cal
/-- In order, each number once. -/
structure Good (L : List Pr) : Prop where
  sorted : L.Pairwise Lt2
  once : L.Pairwise (fun x y => x.1 ≠ y.1)
theorem good_nil : Good [] := ⟨.nil, .nil⟩
theorem Good.sub {L M : List Pr} (h : Good L) (hs : M.Sublist L) : Good M := ⟨h.sorted.sublist hs, h.once.sublist hs⟩
theorem remL_sub (id : Int) (L : List Pr) : (remL id L).Sublist L := by
  unfold remL
  split
  · exact List.Sublist.refl _
  · rename_i i _
    have e : L.take i ++ L.drop i = L := List.take_append_drop i L
    have h1 : (L.take i ++ L.drop (i + 1)).Sublist (L.take i ++ L.drop i) := by
      refine (List.Sublist.refl _).append ?_
      rw [← List.drop_drop]
      exact List.drop_sublist 1 _
    rw [e] at h1
    exact h1
theorem remL_good {id : Int} {L : List Pr} (h : Good L) : Good (remL id L) := h.sub (remL_sub id L)
theorem once_eq {L : List Pr} (h : Good L) {x y : Pr} (hx : x ∈ L) (hy : y ∈ L) (e : x.1 = y.1) : x = y := by
  obtain ⟨i, hi, rfl⟩ := List.getElem_of_mem hx
  obtain ⟨j, hj, rfl⟩ := List.getElem_of_mem hy
  have hp := List.pairwise_iff_getElem.1 h.once
  rcases Nat.lt_trichotomy i j with k | k | k
  · exact absurd e (hp i j hi hj k)
  · subst k; rfl
  · exact absurd e.symm (hp j i hj hi k)
theorem remL_mem {id : Int} {L : List Pr} (h : Good L) {x : Pr} : x ∈ remL id L ↔ x ∈ L ∧ x.1 ≠ id := by
  unfold remL
  cases hf : findI id L with
  | none => exact ⟨fun hx => ⟨hx, findI_none hf x hx⟩, fun hx => hx.1⟩
  | some i =>
    obtain ⟨hi, hid, _⟩ := findI_some hf
    have e : L.take i ++ L[i] :: L.drop (i + 1) = L := by rw [List.getElem_cons_drop, List.take_append_drop]
    have hg := h.once
    rw [← e] at hg
    obtain ⟨g1, g2, g3⟩ := List.pairwise_append.1 hg
    obtain ⟨g4, g5⟩ := List.pairwise_cons.1 g2
    show x ∈ L.take i ++ L.drop (i + 1) ↔ _
    refine ⟨fun hx => ?_, fun hx => ?_⟩
    · rcases List.mem_append.1 hx with k | k
      · exact ⟨List.mem_of_mem_take k, by rw [← hid]; exact g3 x k L[i] (List.mem_cons_self ..)⟩
      · exact ⟨List.mem_of_mem_drop k, by rw [← hid]; exact (g4 x k).symm⟩
    · obtain ⟨k1, k2⟩ := hx
      rw [← e] at k1
      rcases List.mem_append.1 k1 with k | k
      · exact List.mem_append.2 (.inl k)
      · rcases List.mem_cons.1 k with rfl | k
        · exact absurd hid k2
        · exact List.mem_append.2 (.inr k)
theorem insP_mem {x y : Pr} {L : List Pr} : y ∈ insP x L ↔ y = x ∨ y ∈ L := by
  unfold insP
  have e : L.take (goes x L) ++ L.drop (goes x L) = L := List.take_append_drop _ L
  rw [List.mem_append, List.mem_cons]
  refine ⟨fun h => ?_, fun h => ?_⟩
  · rcases h with h | h | h
    · exact .inr (List.mem_of_mem_take h)
    · exact .inl h
    · exact .inr (List.mem_of_mem_drop h)
  · rcases h with h | h
    · exact .inr (.inl h)
    · rw [← e] at h
      rcases List.mem_append.1 h with h | h
      · exact .inl h
      · exact .inr (.inr h)
theorem insP_good {x : Pr} {L : List Pr} (h : Good L) (hn : ∀ y ∈ L, y.1 ≠ x.1) : Good (insP x L) := by
  have hT : ∀ y ∈ L.take (goes x L), Lt2 y x := fun y hy => by
    obtain ⟨j, hj, rfl⟩ := List.getElem_of_mem hy
    rw [List.getElem_take]
    rw [List.length_take] at hj
    exact goes_ahead (by omega) (by omega)
  have hp := List.pairwise_iff_getElem.1 h.sorted
  have hD : ∀ y ∈ L.drop (goes x L), Lt2 x y := fun y hy => by
    obtain ⟨j, hj, rfl⟩ := List.getElem_of_mem hy
    rw [List.length_drop] at hj
    rw [List.getElem_drop]
    have hs := goes_stop (x := x) (L := L) (by omega)
    have h0 : Lt2 x (L[goes x L]'(by omega)) := by
      rcases lt_neg hs with e | e
      · exact absurd (by rw [e]) (hn _ (List.getElem_mem (show goes x L < L.length by omega)))
      · exact e
    cases j with
    | zero => exact h0
    | succ j => exact lt_trans h0 (hp _ _ (by omega) (by omega) (by omega))
  have eL : L.take (goes x L) ++ L.drop (goes x L) = L := List.take_append_drop _ L
  have g1 := h.sorted
  have g2 := h.once
  rw [← eL] at g1 g2
  obtain ⟨a1, a2, a3⟩ := List.pairwise_append.1 g1
  obtain ⟨b1, b2, b3⟩ := List.pairwise_append.1 g2
  refine ⟨?_, ?_⟩
  · unfold insP
    refine List.pairwise_append.2 ⟨a1, List.pairwise_cons.2 ⟨hD, a2⟩, fun y hy z hz => ?_⟩
    rcases List.mem_cons.1 hz with rfl | hz
    · exact hT y hy
    · exact a3 y hy z hz
  · unfold insP
    refine List.pairwise_append.2 ⟨b1, List.pairwise_cons.2 ⟨fun y hy e => hn y (List.mem_of_mem_drop hy) e.symm, b2⟩, fun y hy z hz => ?_⟩
    rcases List.mem_cons.1 hz with rfl | hz
    · exact hn y (List.mem_of_mem_take hy)
    · exact b3 y hy z hz
theorem putL_good {id a : Int} {L : List Pr} (h : Good L) : Good (putL id a L) := insP_good (remL_good h) fun _ hy => ((remL_mem h).1 hy).2
theorem putL_mem {id a : Int} {L : List Pr} (h : Good L) {x : Pr} : x ∈ putL id a L ↔ x = (id, a) ∨ x ∈ L ∧ x.1 ≠ id := by
  unfold putL
  rw [insP_mem, remL_mem h]
theorem due_good {t : Int} {L : List Pr} (h : Good L) : Good (L.drop (dueN t L)) := h.sub (List.drop_sublist _ _)
/-- Due takes just those whose time is at most till. -/
theorem due_take {t : Int} {L : List Pr} {x : Pr} (hx : x ∈ L.take (dueN t L)) : x.2 ≤ t := by
  obtain ⟨j, hj, rfl⟩ := List.getElem_of_mem hx
  rw [List.getElem_take]
  rw [List.length_take] at hj
  exact dueN_in (by omega) (by omega)
theorem due_drop {t : Int} {L : List Pr} (h : Good L) {x : Pr} (hx : x ∈ L.drop (dueN t L)) : t < x.2 := by
  obtain ⟨j, hj, rfl⟩ := List.getElem_of_mem hx
  rw [List.length_drop] at hj
  rw [List.getElem_drop]
  have hs := dueN_stop (t := t) (L := L) (by omega)
  have hp := List.pairwise_iff_getElem.1 h.sorted
  cases j with
  | zero => simpa using hs
  | succ j =>
    have := hp (dueN t L) (dueN t L + (j + 1)) (by omega) (by omega) (by omega)
    unfold Lt2 at this
    omega
/-- There is one such list. -/
theorem good_same {L M : List Pr} (hL : Good L) (hM : Good M) (h : ∀ x, x ∈ L ↔ x ∈ M) : L = M := by
  induction L generalizing M with
  | nil => cases M with
    | nil => rfl
    | cons y r => exact absurd ((h y).2 (by simp)) (by simp)
  | cons x r ih =>
    cases M with
    | nil => exact absurd ((h x).1 (by simp)) (by simp)
    | cons y s =>
      obtain ⟨x1, x2⟩ := List.pairwise_cons.1 hL.sorted
      obtain ⟨y1, y2⟩ := List.pairwise_cons.1 hM.sorted
      have e : x = y := by
        rcases List.mem_cons.1 ((h x).1 (by simp)) with e | hx
        · exact e
        · rcases List.mem_cons.1 ((h y).2 (by simp)) with e | hy
          · exact e.symm
          · exact (lt_irrefl (lt_trans (x1 y hy) (y1 x hx))).elim
      subst e
      rw [ih (hL.sub (List.sublist_cons_self _ _)) (hM.sub (List.sublist_cons_self _ _)) fun z => ?_]
      refine ⟨fun hz => ?_, fun hz => ?_⟩
      · rcases List.mem_cons.1 ((h z).1 (by simp [hz])) with rfl | k
        · exact (lt_irrefl (x1 z hz)).elim
        · exact k
      · rcases List.mem_cons.1 ((h z).2 (by simp [hz])) with rfl | k
        · exact (lt_irrefl (y1 z hz)).elim
        · exact k
end Cal
end Go.Proofs.Ytknhjbfhkfngeaa
