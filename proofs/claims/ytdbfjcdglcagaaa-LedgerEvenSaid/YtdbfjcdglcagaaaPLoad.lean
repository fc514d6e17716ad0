/- The program's book: Load; no condition but those that each row names. -/
import Derived.Test.YtdbfjcdglcagaaaPNote
namespace Go.Proofs.Ytdbfjcdglcagaaa
open Go.RowKit Go.Maps Bk

theorem has_setp {W : World} {g : Nat} {cs : Array Value} {T : TypeId} (h : Has W g (.cells cs T (0, 0))) (j : Nat) (u : Value) : Has (W.setCell ⟨g, j, none⟩ u) g (.cells (cs.setIfInBounds j u) T (0, 0)) := heap_setCell_same W g j cs T u h
/-- An account's block: what a walk asks of it. -/
theorem acc6 {W : World} {g : Nat} {T : TypeId} {a : Ac} (h : Has W g (.cells #[.int .i64 a.g, .int .i64 a.o, .int .i64 a.l, .int .i64 a.d, .int .i64 a.c, .int .i64 a.t] T)) :
    W.cell? ⟨g, 0, none⟩ = some (.int .i64 a.g) ∧ W.cell? ⟨g, 1, none⟩ = some (.int .i64 a.o) ∧ W.cell? ⟨g, 2, none⟩ = some (.int .i64 a.l) ∧ W.cell? ⟨g, 3, none⟩ = some (.int .i64 a.d) ∧ W.cell? ⟨g, 4, none⟩ = some (.int .i64 a.c) ∧ W.cell? ⟨g, 5, none⟩ = some (.int .i64 a.t) :=
  ⟨has_cell h 0, has_cell h 1, has_cell h 2, has_cell h 3, has_cell h 4, has_cell h 5⟩
end Go.Proofs.Ytdbfjcdglcagaaa
