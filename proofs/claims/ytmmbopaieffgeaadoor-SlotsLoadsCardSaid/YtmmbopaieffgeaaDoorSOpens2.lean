/- What comes in opened to cells: a slice of numbers, of bools, a struct of a number and three slices. -/
import Derived.Test.YtmmbopaieffgeaaDoorSOpens
import Derived.Test.YtmmbopaieffgeaaDoorSLawLoads
import Derived.Lib.SmallJoins
namespace Go.Proofs.YtmmbopaieffgeaaDoor
open Go.ChangeShapes Go.WideShapes Go.RowKit Go.ChangeMaps Go.Deep Go.Joins

section
variable {H : Type} {enc : TypeId × Value → H} {w : World} {spare : Nat → Bool} {held : Bool}

set_option maxRecDepth 100000 in
theorem open_nums {fuel : Nat} {v : Value} {x : DataW H × List MemPlace} (h : DataW.trod enc Tryd.prog w 0 spare held fuel 27 [v] = some x) : ∃ l, Lst (fun _ => False) w v (ints l) := by
  rcases open_slice Tryd.underlying27 h with ⟨hc, _⟩ | ⟨a, len, cap, m, n, D, Pl, hcs, _, hl, hm, hmm, _, hi⟩
  · simp at hc
    subst hc
    exact ⟨[], Lst.nil _ _⟩
  · simp at hcs
    subst hcs
    have hlm : len ≤ m := by rw [hmm]; split <;> omega
    have hel : ∀ i, i < len → ∃ q : Int, w.cell? (a.add i) = some (.int .i64 q) := fun i hil => by
      obtain ⟨cs', hc, ht⟩ := hi i (by omega)
      rw [cellsNum] at hc
      obtain ⟨_, hcl, hat⟩ := World.cells?_some hc
      match cs', hcl with
      | [u0], _ =>
        obtain ⟨z0, e0, _, _⟩ := DataW.trod_int Tryd.underlying3 ht
        simp at e0
        subst e0
        have h0 := hat 0 (by simp)
        simp only [List.getElem?_cons_zero] at h0
        exact ⟨z0, by simpa [Addr.add] using h0⟩
    have hpl : ∀ i, i < len → ∃ b off, a = ⟨b, off, none⟩ := fun i hil => by
      obtain ⟨q, hq⟩ := hel 0 (by omega)
      exact plain_addr (by simpa [Addr.add] using hq)
    refine ⟨(List.range len).map fun i => if hil : i < len then Classical.choose (hel i hil) else 0, some a, cap, by simp [ints], by simp [ints]; unfold maxLen at hm; omega, fun j x hj => ?_⟩
    have hjl : j < len := by
      have := (List.getElem?_eq_some_iff.1 hj).1
      simpa [ints] using this
    unfold ints at hj
    rw [List.getElem?_map, List.getElem?_map, List.getElem?_range hjl] at hj
    simp only [Option.map_some, dif_pos hjl, Option.some.injEq] at hj
    obtain ⟨b, off, ha⟩ := hpl j hjl
    have hc := Classical.choose_spec (hel j hjl)
    rw [hj] at hc
    subst ha
    rw [addr_plus] at hc
    exact ⟨b, off, rfl, fun k => k, hc⟩

set_option maxRecDepth 100000 in
theorem open_flags {fuel : Nat} {v : Value} {x : DataW H × List MemPlace} (h : DataW.trod enc Tryd.prog w 0 spare held fuel 28 [v] = some x) : ∃ l, Lst (fun _ => False) w v (bools l) := by
  rcases open_slice Tryd.underlying28 h with ⟨hc, _⟩ | ⟨a, len, cap, m, n, D, Pl, hcs, _, hl, hm, hmm, _, hi⟩
  · simp at hc
    subst hc
    exact ⟨[], Lst.nil _ _⟩
  · simp at hcs
    subst hcs
    have hlm : len ≤ m := by rw [hmm]; split <;> omega
    have hel : ∀ i, i < len → ∃ q : Bool, w.cell? (a.add i) = some (.bool q) := fun i hil => by
      obtain ⟨cs', hc, ht⟩ := hi i (by omega)
      rw [cellsB] at hc
      obtain ⟨_, hcl, hat⟩ := World.cells?_some hc
      match cs', hcl with
      | [u0], _ =>
        obtain ⟨z0, e0, _⟩ := DataW.trod_bool Tryd.underlying4 ht
        simp at e0
        subst e0
        have h0 := hat 0 (by simp)
        simp only [List.getElem?_cons_zero] at h0
        exact ⟨z0, by simpa [Addr.add] using h0⟩
    have hpl : ∀ i, i < len → ∃ b off, a = ⟨b, off, none⟩ := fun i hil => by
      obtain ⟨q, hq⟩ := hel 0 (by omega)
      exact plain_addr (by simpa [Addr.add] using hq)
    refine ⟨(List.range len).map fun i => if hil : i < len then Classical.choose (hel i hil) else false, some a, cap, by simp [bools], by simp [bools]; unfold maxLen at hm; omega, fun j x hj => ?_⟩
    have hjl : j < len := by
      have := (List.getElem?_eq_some_iff.1 hj).1
      simpa [bools] using this
    unfold bools at hj
    rw [List.getElem?_map, List.getElem?_map, List.getElem?_range hjl] at hj
    simp only [Option.map_some, dif_pos hjl, Option.some.injEq] at hj
    obtain ⟨b, off, ha⟩ := hpl j hjl
    have hc := Classical.choose_spec (hel j hjl)
    rw [hj] at hc
    subst ha
    rw [addr_plus] at hc
    exact ⟨b, off, rfl, fun k => k, hc⟩
end
end Go.Proofs.YtmmbopaieffgeaaDoor
