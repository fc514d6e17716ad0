/- The program's write: an error's text goes behind what a builder holds; with numbers, and with names; no condition but that the text is at most 2^47 bytes, and what the rows' listed variables hold. -/
import Derived.Test.YtlnamkplbikcjaaGreatDoorYOwn
import Derived.Deep.RegionHeld3
import Derived.RegionCalls
namespace Go.Proofs.YtlnamkplbikcjaaGreatDoor
open Go.RowKit Ft

theorem below_up {B : Nat} {w a b : World} (h1 : Below B w a) (h2 : Below a.heap.size a b) (hB : B ≤ a.heap.size) : Below B w b := h1.trans (h2.mono hB)

theorem opL_len (op : Int) (h : I64 op) : (opL op).length ≤ 23 := by
  have := itoa_len op h
  unfold opL
  split
  · next hh =>
    have hc : op = 1 ∨ op = 2 ∨ op = 3 ∨ op = 4 ∨ op = 5 ∨ op = 6 ∨ op = 7 ∨ op = 8 ∨ op = 9 := by omega
    rcases hc with rfl | rfl | rfl | rfl | rfl | rfl | rfl | rfl | rfl <;> decide
  · simp only [List.length_append, List.length_cons, List.length_nil]; omega
theorem toldL_len (h : Int) (hh : I64 h) : (toldL h).length ≤ 32 := by
  have := itoa_len h hh
  unfold toldL
  split
  · simp only [List.length_cons]; omega
  · next hn =>
    refine text_len ?_
    by_cases h0 : h = 0
    · exact .inl h0
    · by_cases k : okH h
      · exact .inr k
      · exact absurd (textL_no k h0) hn

theorem errnof (n : Int) (hi : I64 n) (w : World) (hg : LaidAt w) :
    Calls Tryz.prog 27 #[.int .i64 n] w fun e w' => e = .returned (.string ⟨(nbrL false n).toArray⟩) ∧ Below w.heap.size w w' := by
  have h := errno_text n hi w hg
  unfold nbrL
  rw [if_neg (by simp)]
  exact h
end Go.Proofs.YtlnamkplbikcjaaGreatDoor
