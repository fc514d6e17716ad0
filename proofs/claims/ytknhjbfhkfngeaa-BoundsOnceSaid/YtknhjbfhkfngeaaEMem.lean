/- A heap as it lies in memory: one block of two cells, a row of entries, a map of places; plain words on them; nothing of the program is walked here; no condition. -/
import Derived.Test.YtknhjbfhkfngeaaFRow
import Derived.Test.YtknhjbfhkfngeaaEMath
import Derived.Test.YtknhjbfhkfngeaaProg
import Derived.Maps.OwnSet
import Derived.Maps.OwnOps
namespace Go.Proofs.Ytknhjbfhkfngeaa
open Go.RowKit Go.Maps Hp

/-- The map of places. -/
abbrev MT : TypeId := 47
theorem keyLaw : Keyed Try.prog 3 := int_keyed Try.underlying3
theorem zeroInt (w : World) : (zeroValue 3).run Try.prog w = .ok (.int .i64 0) w := by kernel_rfl
def litI (a : Int) : Lit := .int .i64 a
def In64 (a : Int) : Prop := -9223372036854775808 ≤ a ∧ a ≤ 9223372036854775807
theorem In64.wf {a : Int} (h : In64 a) : (Lit.int .i64 a).wf = true := by
  obtain ⟨h1, h2⟩ := h
  simp only [Lit.wf, IntKind.min, IntKind.max, IntKind.signed, IntKind.bits, Bool.and_eq_true, decide_eq_true_eq, if_true]
  omega
theorem In64.of {a : Int} (h : (Lit.int .i64 a).wf = true) : In64 a := by
  simp only [Lit.wf, IntKind.min, IntKind.max, IntKind.signed, IntKind.bits, Bool.and_eq_true, decide_eq_true_eq, if_true] at h
  exact ⟨by omega, by omega⟩
theorem In64.key {a : Int} (h : In64 a) : keyOf Try.prog 3 (.int .i64 a) = some (litI a) := keyOf_int_mk Try.underlying3 h.wf
theorem In64.nat {i : Nat} (h : i ≤ 4096) : In64 (i : Int) := ⟨by omega, by omega⟩
theorem litI_ne {a b : Int} (h : a ≠ b) : litI a ≠ litI b := by intro e; unfold litI at e; injection e; contradiction
theorem litI_key (a : Int) : WideAt.IsKeyLit (litI a) := trivial

section
variable {α : Type}
/-- The map D says where each of L stands. -/
structure Spec (D : DataW Unit) (L : List (Int × α)) : Prop where
  at_ : ∀ i (h : i < L.length), Maps.has D (litI L[i].1) = true ∧ ∀ z, D.atKey (litI L[i].1) z = .lit (litI i)
  no : ∀ a, (∀ e ∈ L, e.1 ≠ a) → Maps.has D (litI a) = false
theorem Spec.inj {D : DataW Unit} {L : List (Int × α)} (h : Spec D L) {i j : Nat} (hi : i < L.length) (hj : j < L.length) (e : L[i].1 = L[j].1) : i = j := by
  have h1 := (h.at_ i hi).2 .nil
  have h2 := (h.at_ j hj).2 .nil
  rw [e, h2] at h1
  unfold litI at h1
  injection h1 with h1
  injection h1 with _ h1
  omega
/-- Block mb is the map of the places of L. -/
def Places (w : World) (mb : Nat) (L : List (Int × α)) : Prop := ∃ D, w.ownsMap Try.prog 3 (plainElem Try.prog 3) mb L.length D ∧ Maps.size D = L.length ∧ Spec D L
theorem own_size {w : World} {mb n : Nat} {D : DataW Unit} (h : w.ownsMap Try.prog 3 (plainElem Try.prog 3) mb n D) : w.ownsMap Try.prog 3 (plainElem Try.prog 3) mb (Maps.size D) D := by
  obtain ⟨es, clock, hb, F, hs, rfl⟩ := h
  exact ⟨es, clock, hb, F, by simp [Maps.size, length_sorted], rfl⟩
theorem Places.keeps {w w' : World} {mb : Nat} {L : List (Int × α)} {S : Nat → Prop} (h : Places w mb L) (hk : Keeps S w w') (hn : ¬ S mb) : Places w' mb L := by
  obtain ⟨D, ho, hs, hp⟩ := h
  have hlt := ho.lt
  obtain ⟨es, clock, hb, F, hsz, hD⟩ := ho
  exact ⟨D, ⟨es, clock, (hk.block mb hlt hn).trans hb, F, hsz, hD⟩, hs, hp⟩
theorem Places.lt {w : World} {mb : Nat} {L : List (Int × α)} (h : Places w mb L) : mb < w.heap.size := by obtain ⟨D, ho, _⟩ := h; exact ho.lt
theorem Places.empty (w : World) : Places (w.alloc (.map #[] 0)) w.heap.size ([] : List (Int × α)) :=
  ⟨.map [], World.ownsMap_made w _ _ _, rfl, fun i h => by simp at h, fun _ _ => rfl⟩

/-- One place laid anew. -/
theorem spec_put {D : DataW Unit} (ht : Tidy D) (k : Int) (d : DataW Unit) (k' : Int) : Maps.has (D.put (litI k) d) (litI k') = (if k' = k then true else Maps.has D (litI k')) ∧ ∀ z, (D.put (litI k) d).atKey (litI k') z = if k' = k then d else D.atKey (litI k') z := by
  by_cases e : k' = k
  · subst e
    simp only [if_true]
    exact ⟨has_put_same ht.isMap (litI_key _) d, fun z => atKey_put_same ht.isMap (litI_key _) d z⟩
  · simp only [if_neg e]
    exact ⟨has_put_other (litI_ne e) d, fun z => atKey_put_other (litI_ne e) d z⟩

/-- One more at the end. -/
theorem spec_push {D : DataW Unit} {L : List (Int × α)} (ht : Tidy D) (h : Spec D L) (a : Int) (v : α) (ha : ∀ e ∈ L, e.1 ≠ a) :
    Spec (D.put (litI a) (.lit (litI L.length))) (L ++ [(a, v)]) ∧ Maps.size (D.put (litI a) (.lit (litI L.length))) = Maps.size D + 1 := by
  refine ⟨⟨fun k hk => ?_, fun b hb => ?_⟩, ?_⟩
  · simp only [(spec_put ht _ _ _).1, (spec_put ht _ _ _).2]
    by_cases e : k < L.length
    · rw [List.getElem_append_left e]
      have n1 : L[k].1 ≠ a := ha _ (List.getElem_mem e)
      simp only [if_neg n1]
      exact h.at_ k e
    · have : k = L.length := by simp at hk; omega
      subst this
      simp
  · rw [(spec_put ht _ _ _).1, if_neg (Ne.symm (hb (a, v) (by simp)))]
    exact h.no b fun e he => hb e (by simp [he])
  · rw [size_put ht, h.no a ha]; simp
/-- The last one less. -/
theorem spec_last {D : DataW Unit} {L : List (Int × α)} (ht : Tidy D) (h : Spec D L) {m : Nat} (hm : L.length = m + 1) :
    Spec (D.del (litI (L[m]'(by omega)).1)) (L.take m) ∧ Maps.size (D.del (litI (L[m]'(by omega)).1)) = m ∨ Maps.size D ≠ L.length := by
  by_cases hs : Maps.size D = L.length
  · left
    refine ⟨⟨fun k hk => ?_, fun b hb => ?_⟩, ?_⟩
    · have hk' : k < m := by simp at hk; omega
      have n1 : litI (L[k]'(by omega)).1 ≠ litI (L[m]'(by omega)).1 := litI_ne fun e => by have := h.inj (by omega) (by omega) e; omega
      rw [List.getElem_take, has_del_other n1]
      exact ⟨(h.at_ k (by omega)).1, fun z => by rw [atKey_del_other n1]; exact (h.at_ k (by omega)).2 z⟩
    · by_cases e : b = (L[m]'(by omega)).1
      · subst e; exact has_del_same
      · rw [has_del_other (litI_ne e)]
        refine h.no b fun x hx => ?_
        obtain ⟨k, hk, rfl⟩ := List.getElem_of_mem hx
        by_cases e2 : k = m
        · subst e2; exact Ne.symm e
        · exact hb _ (by rw [List.mem_take_iff_getElem]; exact ⟨k, by omega, rfl⟩)
    · have := size_del (k := litI (L[m]'(by omega)).1) ht
      rw [(h.at_ m (by omega)).1] at this
      simp at this; omega
  · exact .inr hs
/-- Another key for one of them leaves the places. -/
theorem spec_ids {D : DataW Unit} {L L' : List (Int × α)} (h : Spec D L) (he : L'.map (·.1) = L.map (·.1)) : Spec D L' := by
  have hl : L'.length = L.length := by simpa using congrArg List.length he
  have hg : ∀ k (h1 : k < L'.length) (h2 : k < L.length), L'[k].1 = L[k].1 := fun k h1 h2 => by
    have := congrArg (fun l => l[k]?) he
    simpa [h1, h2] using this
  refine ⟨fun k hk => ?_, fun a ha => h.no a fun e hm => ?_⟩
  · rw [hg k hk (by omega)]; exact h.at_ k (by omega)
  · obtain ⟨k, hk, rfl⟩ := List.getElem_of_mem hm
    rw [← hg k (by omega) hk]
    exact ha _ (List.getElem_mem _)
theorem Places.ids {w : World} {mb : Nat} {L L' : List (Int × α)} (h : Places w mb L) (he : L'.map (·.1) = L.map (·.1)) : Places w mb L' := by
  obtain ⟨D, ho, hs, hp⟩ := h
  have hl : L'.length = L.length := by simpa using congrArg List.length he
  exact ⟨D, hl ▸ ho, hs.trans hl.symm, spec_ids hp he⟩

variable [Inhabited α]
theorem sw_get {L : List (Int × α)} {i j k : Nat} (hi : i < L.length) (hj : j < L.length) (hk : k < (sw L i j).length) : (sw L i j)[k] = if k = j then L[i] else if k = i then L[j] else L[k]'(by rwa [sw_len] at hk) := by
  have hk' : k < L.length := by rwa [sw_len] at hk
  rw [← at_get hk, at_sw L i j hi hj k]
  unfold swf
  by_cases e1 : k = j
  · simp [e1, at_get hi]
  · by_cases e2 : k = i
    · subst e2; simp [e1, at_get hj]
    · simp [e1, e2, at_get hk']
/-- What swap does to the map. -/
theorem spec_swap {D : DataW Unit} {L : List (Int × α)} (ht : Tidy D) (h : Spec D L) {i j : Nat} (hi : i < L.length) (hj : j < L.length) :
    Spec ((D.put (litI L[j].1) (.lit (litI i))).put (litI L[i].1) (.lit (litI j))) (sw L i j) ∧ Maps.size ((D.put (litI L[j].1) (.lit (litI i))).put (litI L[i].1) (.lit (litI j))) = Maps.size D := by
  have t1 := Tidy.put ht (litI_key L[j].1) (.lit (litI i))
  have hasj := (h.at_ j hj).1
  have hasi := (h.at_ i hi).1
  have has1 : Maps.has (D.put (litI L[j].1) (.lit (litI i))) (litI L[i].1) = true := by
    rw [(spec_put ht _ _ _).1]; split <;> first | rfl | exact hasi
  refine ⟨⟨fun k hk => ?_, fun a ha => ?_⟩, ?_⟩
  · have hk' : k < L.length := by rwa [sw_len] at hk
    rw [sw_get hi hj hk, (spec_put t1 _ _ _).1, (spec_put ht _ _ _).1]
    simp only [(spec_put t1 _ _ _).2, (spec_put ht _ _ _).2]
    by_cases e1 : k = j
    · subst e1; simp
    · simp only [if_neg e1]
      by_cases e2 : k = i
      · subst e2
        have : L[j].1 ≠ L[k].1 := fun e => e1 (h.inj hi hj e.symm)
        simp [this]
      · have n1 : L[k].1 ≠ L[i].1 := fun e => e2 (h.inj hk' hi e)
        have n2 : L[k].1 ≠ L[j].1 := fun e => e1 (h.inj hk' hj e)
        simp only [if_neg e2, if_neg n1, if_neg n2]
        exact h.at_ k hk'
  · have hp := sw_perm L i j hi hj
    have ha' : ∀ e ∈ L, e.1 ≠ a := fun e he => ha e (hp.mem_iff.2 he)
    rw [(spec_put t1 _ _ _).1, (spec_put ht _ _ _).1, if_neg (Ne.symm (ha' _ (List.getElem_mem hi))), if_neg (Ne.symm (ha' _ (List.getElem_mem hj)))]
    exact h.no a ha'
  · rw [size_put t1, has1, size_put ht, hasj]; simp
end
end Go.Proofs.Ytknhjbfhkfngeaa
