/- What comes in opened to cells: a slice of texts. -/
import Derived.Test.YtodcnlmodoahjaaELawTexts
import Derived.SliceStrings
namespace Go.Proofs.Ytodcnlmodoahjaa
open Go.ChangeShapes Go.WideShapes Go.RowKit Go.ChangeMaps Go.Deep

theorem cellsText : Try.prog.cellsOf 9 = 1 := by kernel_rfl
section
variable {H : Type} {enc : TypeId × Value → H} {w : World} {spare : Nat → Bool} {held : Bool}
/-- A slice of texts. -/
theorem open_texts {fuel : Nat} {v : Value} {x : DataW H × List MemPlace} (h : DataW.trod enc Try.prog w 0 spare held fuel 37 [v] = some x) : ∃ l, TextsAt w v l := by
  rcases open_strings Try.underlying37 Try.underlying9 cellsText h with ⟨hc, _⟩ | ⟨a, len, cap, ss, hcs, _, hl, hm, hlen, _, hc, _⟩
  · simp at hc
    subst hc
    exact ⟨[], none, 0, rfl, by simp, fun j x hj => by simp at hj⟩
  · simp at hcs
    subst hcs
    have hle : len ≤ ss.length := by rw [hlen]; split <;> omega
    have hll : (ss.take len).length = len := by simp; omega
    refine ⟨ss.take len, some a, cap, by rw [hll], by unfold maxLen at hm; omega, fun j x hj => ?_⟩
    have hjl : j < len := by have := (List.getElem?_eq_some_iff.1 hj).1; omega
    obtain ⟨b, off, rfl⟩ := plain_addr (w := w) (a := a) (by have := hc 0 (by omega); simpa [Addr.add] using this)
    refine ⟨b, off, rfl, ?_⟩
    have h2 := hc j (by omega)
    rw [addr_plus] at h2
    rw [h2]
    rw [List.getElem?_take, if_pos hjl] at hj
    simp [List.getD_eq_getElem?_getD, hj]
end
end Go.Proofs.Ytodcnlmodoahjaa
