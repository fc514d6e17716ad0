/- The program's Get, Set, Drop, Len of a table; no condition but those that each row names. -/
import Derived.Test.YtlcdbblbepndoaaDoorVFind
namespace Go.Proofs.YtlcdbblbepndoaaDoor
open Go.RowKit

theorem findV_none {A : Tab} {x : Int} (h : A.find x = none) : findV A x = .tuple #[.int .i64 0, .iface 68 (.int .i64 20)] := by unfold findV; rw [h]
theorem findV_some {A : Tab} {x : Int} {i : Nat} (h : A.find x = some i) : findV A x = .tuple #[.int .i64 i, .nilIface] := by unfold findV; rw [h]

set_option maxHeartbeats 1000000 in
set_option maxRecDepth 100000 in
theorem pget (S : Nat → Prop) (B : Nat) (A : Tab) (hA : A.Good) (w : World) (v : Value) (h : PTab S B w A v) (x : Int) :
    Calls Tryd.prog 52 #[v, .int .i64 x] w fun e w' => e = .returned (.tuple #[.int .i64 (getV A x), errV (getN A x)]) ∧ Below w.heap.size w w' := by
  obtain ⟨b, g1, c1, g2, c2, g3, c3, rfl, h, _⟩ := h
  have HF := Lib.hid (pfind B A hA w b g1 c1 g2 c2 g3 c3 h x)
  cases hf : A.find x with
  | none =>
    rw [findV_none hf] at HF
    have e1 : getV A x = 0 := by unfold getV; rw [hf]
    have e2 : errV (getN A x) = .iface 68 (.int .i64 20) := by unfold getN; rw [hf]; rfl
    rw [e1, e2]
    clear e1 e2 hf h hA
    go_enter Tryd.func52, Tryd.ntmps52
    go_wp2_with fail
    refine HF.out.mono ?_
    rintro e w1 ⟨rfl, hb⟩
    go_wp2_with fail
    go_ret2
    exact ⟨rfl, hb⟩
  | some i =>
    rw [findV_some hf] at HF
    obtain ⟨hi, _, _⟩ := find_inv hf
    have e1 : getV A x = A.v i := by unfold getV; rw [hf]
    have e2 : errV (getN A x) = .nilIface := by unfold getN; rw [hf]; rfl
    rw [e1, e2]
    have hll := hA.ll
    have n4 := hA.n4
    have HP := Lib.hid (fun w1 (hb : Below w.heap.size w w1) => h.keeps (S := fun _ => False) (Keeps.of_below hb) (fun k => k) (fun k => k) (fun k => k) (fun k => k))
    clear e1 e2 hf h hA
    go_enter Tryd.func52, Tryd.ntmps52
    go_wp2_with fail
    refine HF.out.mono ?_
    rintro e w1 ⟨rfl, hb⟩
    have h1 := HP.out w1 hb
    have f3 := h1.f3
    have q := h1.own.l.cellAt i (by omega)
    rw [ints_at (by omega)] at q
    rw [hll] at f3
    have hv : A.list.getD i 0 = A.v i := rfl
    rw [hv] at q
    have z0 : (0 : Int) ≤ (i : Int) := by omega
    have z1 : (i : Int) < (A.gens.length : Int) := by omega
    clear h1 hll hv
    go_wp2_with fail
    go_ret2
    exact ⟨rfl, hb⟩

/-- What is answered of a table that has turned. -/
def ActPost (S : Nat → Prop) (B : Nat) (w : World) (A' : Tab) (v r : Value) (e : Ending) (w' : World) : Prop := e = .returned r ∧ PTab S B w' A' v ∧ Keeps S w w'

end Go.Proofs.YtlcdbblbepndoaaDoor
