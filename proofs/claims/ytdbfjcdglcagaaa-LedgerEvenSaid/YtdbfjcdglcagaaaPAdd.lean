/- The program's Add; no condition but those that each row names. -/
import Derived.Test.YtdbfjcdglcagaaaPSum
namespace Go.Proofs.Ytdbfjcdglcagaaa
open Go.RowKit Go.Maps Bk

theorem has_below {w w' : World} {g : Nat} {o : Obj} (h : Has w g o) (hb : Below w.heap.size w w') : Has w' g o := (hb.block g (has_lt h)).trans h
/-- A block of six noughts: what a walk asks of it. -/
theorem res6 {W : World} {g : Nat} {T : TypeId} (h : Has W g (.cells #[.int .i64 0, .int .i64 0, .int .i64 0, .int .i64 0, .int .i64 0, .int .i64 0] T)) : (∀ j, W.frozen? ⟨g, j, none⟩ = false) ∧ W.cell? ⟨g, 0, none⟩ = some (.int .i64 0) ∧ W.cell? ⟨g, 1, none⟩ = some (.int .i64 0) ∧ W.cell? ⟨g, 2, none⟩ = some (.int .i64 0) ∧ W.cell? ⟨g, 3, none⟩ = some (.int .i64 0) ∧ W.cell? ⟨g, 4, none⟩ = some (.int .i64 0) ∧ W.cell? ⟨g, 5, none⟩ = some (.int .i64 0) :=
  ⟨has_free h, has_cell h 0, has_cell h 1, has_cell h 2, has_cell h 3, has_cell h 4, has_cell h 5⟩
end Go.Proofs.Ytdbfjcdglcagaaa
