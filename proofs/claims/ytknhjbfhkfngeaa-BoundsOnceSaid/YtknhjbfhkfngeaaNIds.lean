/- The numbers that came up, as a row of the call's own; no condition. -/
import Derived.Test.YtknhjbfhkfngeaaNPair
import Derived.Test.YtknhjbfhkfngeaaNApp
namespace Go.Proofs.Ytknhjbfhkfngeaa
open Go.RowKit Cal

/-- The numbers of the first k. -/
def idsL (L : List Pr) (k : Nat) : List Value := (L.take k).map fun p => Value.int .i64 p.1
theorem idsL_succ {L : List Pr} {k : Nat} (h : k < L.length) : idsL L (k + 1) = idsL L k ++ [.int .i64 L[k].1] := by
  unfold idsL
  rw [List.take_add_one, List.getElem?_eq_getElem h, List.map_append]
  rfl
abbrev NumR (B : Nat) (w : World) (v : Value) (L : List Pr) (k : Nat) : Prop := w.ownsRow B 3 1 v k (idsL L k)
end Go.Proofs.Ytknhjbfhkfngeaa
