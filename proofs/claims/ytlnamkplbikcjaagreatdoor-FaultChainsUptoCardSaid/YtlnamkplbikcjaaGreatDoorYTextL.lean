/- Lengths of the document's texts; no condition. -/
import Derived.Test.YtlnamkplbikcjaaGreatDoorYData
namespace Go.Proofs.YtlnamkplbikcjaaGreatDoor
open Go.RowKit Ft

theorem opL_lenR (op : Int) (hl : (Lib.itoa op).length ≤ 20) : (opL op).length ≤ 23 := by
  unfold opL
  split
  · next hh =>
    have hc : op = 1 ∨ op = 2 ∨ op = 3 ∨ op = 4 ∨ op = 5 ∨ op = 6 ∨ op = 7 ∨ op = 8 ∨ op = 9 := by omega
    rcases hc with rfl | rfl | rfl | rfl | rfl | rfl | rfl | rfl | rfl <;> decide
  · simp only [List.length_append, List.length_cons, List.length_nil]; omega
theorem toldL_lenR (h : Int) (hl : (Lib.itoa h).length ≤ 20) : (toldL h).length ≤ 32 := by
  unfold toldL
  split
  · simp only [List.length_cons]; omega
  · next hn =>
    refine text_len ?_
    by_cases h0 : h = 0
    · exact .inl h0
    · by_cases k : okH h
      · exact .inr k
      · exact absurd (textL_no k h0) hn
/-- What an error wraps tells no more than the error. -/
theorem txt_kid0 (d : Dt) (said : Bool) (h : d.k = 2 ∨ d.k = 3 ∨ d.k = 4) : (d.kid0.toE.txt said).length ≤ (d.toE.txt said).length := by
  rw [Dt.toE_eq d]
  rcases h with h | h | h <;> rw [h] <;> simp [Er.txt]
theorem txt_kid1 (d : Dt) (said : Bool) (h : d.k = 4) : (d.kid1.toE.txt said).length ≤ (d.toE.txt said).length := by
  rw [Dt.toE_eq d, h]
  simp [Er.txt]
  omega
end Go.Proofs.YtlnamkplbikcjaaGreatDoor
