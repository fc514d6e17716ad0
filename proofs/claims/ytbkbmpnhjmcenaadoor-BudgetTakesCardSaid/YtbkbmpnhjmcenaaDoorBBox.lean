/- A block of eight cells known whole; num at an answer's error; of the listed variable its one cell is asked. -/
import Derived.Test.YtbkbmpnhjmcenaaDoorBSure
import Derived.Test.YtbkbmpnhjmcenaaDoorBNum
import Derived.OneCell
import Derived.Laws.Rows
namespace Go.Proofs.YtbkbmpnhjmcenaaDoor
open Go.RowKit

/-- num at an answer's error: nil, or an api.Errno. -/
def ErrV (x : Value) (n : Int) : Prop := (x = .nilIface ∧ n = 0) ∨ x = .iface 49 (.int .i64 n)
theorem num_any (x : Value) (n : Int) (hx : ErrV x n) (w : World) (hg : LaidAt w) : Calls Tryd.prog 9 #[x] w fun e w' => e = .returned (.int .i64 n) ∧ Below w.heap.size w w' := by
  rcases hx with ⟨rfl, rfl⟩ | rfl
  · exact num_nil w
  · exact num_errno n w hg

/-- Block g is these eight cells. -/
def Bx (W : World) (g : Nat) (x0 x1 x2 x3 x4 x5 x6 x7 : Value) : Prop := ∃ T, W.heap[g]? = some (.cells #[x0, x1, x2, x3, x4, x5, x6, x7] T (0, 0))
theorem Bx.lt {W : World} {g : Nat} {x0 x1 x2 x3 x4 x5 x6 x7 : Value} (h : Bx W g x0 x1 x2 x3 x4 x5 x6 x7) : g < W.heap.size := by
  obtain ⟨T, h⟩ := h
  exact lt_of_block h
theorem Bx.below {W W' : World} {g : Nat} {x0 x1 x2 x3 x4 x5 x6 x7 : Value} (h : Bx W g x0 x1 x2 x3 x4 x5 x6 x7) (hb : Below W.heap.size W W') : Bx W' g x0 x1 x2 x3 x4 x5 x6 x7 := by
  have hl := h.lt
  obtain ⟨T, h⟩ := h
  exact ⟨T, (hb.block g hl).trans h⟩
theorem Bx.alloc {W : World} {g : Nat} {x0 x1 x2 x3 x4 x5 x6 x7 : Value} (h : Bx W g x0 x1 x2 x3 x4 x5 x6 x7) (o : Obj) : Bx (W.alloc o) g x0 x1 x2 x3 x4 x5 x6 x7 :=
  h.below ((Below.refl _ _).alloc (Nat.le_refl _) _)
theorem Bx.new (W : World) (T : TypeId) (x0 x1 x2 x3 x4 x5 x6 x7 : Value) : Bx (W.alloc (.cells #[x0, x1, x2, x3, x4, x5, x6, x7] T)) W.heap.size x0 x1 x2 x3 x4 x5 x6 x7 := ⟨T, heap_alloc_new _ _⟩
theorem Bx.cells {W : World} {g : Nat} {x0 x1 x2 x3 x4 x5 x6 x7 : Value} (h : Bx W g x0 x1 x2 x3 x4 x5 x6 x7) :
    W.cell? ⟨g, 0, none⟩ = some x0 ∧ W.cell? ⟨g, 1, none⟩ = some x1 ∧ W.cell? ⟨g, 2, none⟩ = some x2 ∧ W.cell? ⟨g, 3, none⟩ = some x3 ∧ W.cell? ⟨g, 4, none⟩ = some x4 ∧ W.cell? ⟨g, 5, none⟩ = some x5 ∧ W.cell? ⟨g, 6, none⟩ = some x6 ∧ W.cell? ⟨g, 7, none⟩ = some x7 := by
  obtain ⟨T, h⟩ := h
  have e := fun j => cell_of_row W g j _ T _ h
  exact ⟨(e 0).trans rfl, (e 1).trans rfl, (e 2).trans rfl, (e 3).trans rfl, (e 4).trans rfl, (e 5).trans rfl, (e 6).trans rfl, (e 7).trans rfl⟩
end Go.Proofs.YtbkbmpnhjmcenaaDoor
