/- The program's Get, Set, Drop, Len of a table; no condition but those that each row names. -/
import Derived.Test.YtmmbopaieffgeaaDoorSFind
namespace Go.Proofs.YtmmbopaieffgeaaDoor
open Go.RowKit

theorem findV_none {A : Tab} {x : Int} (h : A.find x = none) : findV A x = .tuple #[.int .i64 0, .iface 64 (.int .i64 20)] := by unfold findV; rw [h]
theorem findV_some {A : Tab} {x : Int} {i : Nat} (h : A.find x = some i) : findV A x = .tuple #[.int .i64 i, .nilIface] := by unfold findV; rw [h]

set_option maxHeartbeats 1000000 in
set_option maxRecDepth 100000 in
theorem pget (S : Nat → Prop) (B : Nat) (A : Tab) (hA : A.Good) (w : World) (v : Value) (h : PTab S B w A v) (x : Int) :
    Calls Tryd.prog 18 #[v, .int .i64 x] w fun e w' => e = .returned (.tuple #[.int .i64 (getV A x), errV (getN A x)]) ∧ Below w.heap.size w w' := by
  obtain ⟨b, g1, c1, g2, c2, g3, c3, rfl, h, _⟩ := h
  have HF := Lib.hid (pfind B A hA w b g1 c1 g2 c2 g3 c3 h x)
  cases hf : A.find x with
  | none =>
    rw [findV_none hf] at HF
    have e1 : getV A x = 0 := by unfold getV; rw [hf]
    have e2 : errV (getN A x) = .iface 64 (.int .i64 20) := by unfold getN; rw [hf]; rfl
    rw [e1, e2]
    clear e1 e2 hf h hA
    go_enter Tryd.func18, Tryd.ntmps18
    go_wp2_with fail
    refine HF.out.mono ?_
    rintro e w1 ⟨rfl, hb⟩
    go_wp2_with fail
    go_ret2
    exact ⟨rfl, hb⟩
  | some i =>
    rw [findV_some hf] at HF
    obtain ⟨hi, _, _⟩ := find_inv hf
    have e1 : getV A x = A.v i := by unfold getV; rw [hf]
    have e2 : errV (getN A x) = .nilIface := by unfold getN; rw [hf]; rfl
    rw [e1, e2]
    have hll := hA.ll
    have n4 := hA.n4
    have HP := Lib.hid (fun w1 (hb : Below w.heap.size w w1) => h.keeps (S := fun _ => False) (Keeps.of_below hb) (fun k => k) (fun k => k) (fun k => k) (fun k => k))
    clear e1 e2 hf h hA
    go_enter Tryd.func18, Tryd.ntmps18
    go_wp2_with fail
    refine HF.out.mono ?_
    rintro e w1 ⟨rfl, hb⟩
    have h1 := HP.out w1 hb
    have f3 := h1.f3
    have q := h1.own.l.cellAt i (by omega)
    rw [ints_at (by omega)] at q
    rw [hll] at f3
    have hv : A.list.getD i 0 = A.v i := rfl
    rw [hv] at q
    have z0 : (0 : Int) ≤ (i : Int) := by omega
    have z1 : (i : Int) < (A.gens.length : Int) := by omega
    clear h1 hll hv
    go_wp2_with fail
    go_ret2
    exact ⟨rfl, hb⟩

/-- What is answered of a table that has turned. -/
def ActPost (S : Nat → Prop) (B : Nat) (w : World) (A' : Tab) (v r : Value) (e : Ending) (w' : World) : Prop := e = .returned r ∧ PTab S B w' A' v ∧ Keeps S w w'

set_option maxHeartbeats 1000000 in
set_option maxRecDepth 100000 in
theorem pset_none (S : Nat → Prop) (B : Nat) (A : Tab) (hA : A.Good) (w : World) (v : Value) (h : PTab S B w A v) (x y : Int) (hf : A.find x = none) :
    Calls Tryd.prog 19 #[v, .int .i64 x, .int .i64 y] w (ActPost S B w A v (errV 20)) := by
  have HP := Lib.hid h
  obtain ⟨b, g1, c1, g2, c2, g3, c3, rfl, h, _⟩ := h
  have HF := Lib.hid (pfind B A hA w b g1 c1 g2 c2 g3 c3 h x)
  rw [findV_none hf] at HF
  clear hf h hA
  go_enter Tryd.func19, Tryd.ntmps19
  go_wp2_with fail
  refine HF.out.mono ?_
  rintro e w1 ⟨rfl, hb⟩
  go_wp2_with fail
  go_ret
  exact ⟨rfl, HP.out.below hb, Keeps.of_below hb⟩

set_option maxHeartbeats 1000000 in
set_option maxRecDepth 100000 in
theorem pset_some (S : Nat → Prop) (B : Nat) (A : Tab) (hA : A.Good) (w : World) (v : Value) (h : PTab S B w A v) (x y : Int) (i : Nat) (hf : A.find x = some i) :
    Calls Tryd.prog 19 #[v, .int .i64 x, .int .i64 y] w (ActPost S B w (A.setAt i y) v .nilIface) := by
  obtain ⟨b, g1, c1, g2, c2, g3, c3, rfl, h, HS⟩ := h
  have HF := Lib.hid (pfind B A hA w b g1 c1 g2 c2 g3 c3 h x)
  rw [findV_some hf] at HF
  obtain ⟨hi, _, _⟩ := find_inv hf
  have hll := hA.ll
  have n4 := hA.n4
  have HP := Lib.hid (fun w1 (hb : Below w.heap.size w w1) => h.keeps (S := fun _ => False) (Keeps.of_below hb) (fun k => k) (fun k => k) (fun k => k) (fun k => k))
  clear hf h hA
  have HS2 := Lib.hid HS
  clear HS
  go_enter Tryd.func19, Tryd.ntmps19
  go_wp2_with fail
  refine HF.out.mono ?_
  rintro e w1 ⟨rfl, hb⟩
  have h1 := HP.out w1 hb
  have H1 := Lib.hid h1
  have f3 := h1.f3
  have q := h1.own.l.cellAt i (by omega)
  have q2 := h1.own.l.frozenAt i
  rw [ints_at (by omega)] at q
  rw [hll] at f3
  have z0 : (0 : Int) ≤ (i : Int) := by omega
  have z1 : (i : Int) < (A.gens.length : Int) := by omega
  clear h1 hll
  go_wp2_with fail
  go_ret
  have h2 := H1.out
  have hk : Keeps S w1 (w1.setCell ⟨g3, i, none⟩ (.int .i64 y)) := (Keeps.refl S w1).setCell _ _ (by rw [HS2.out]; simp)
  have hf : ∀ b' o, b' ≠ g3 → (w1.setCell ⟨g3, i, none⟩ (.int .i64 y)).cell? ⟨b', o, none⟩ = w1.cell? ⟨b', o, none⟩ := fun b' o hn => World.cell?_setCell_far _ _ _ _ (fun e => hn e.symm)
  have hst := (h2.own.l.stored i (.int .i64 y)).1
  rw [ints_set] at hst
  have hl : (A.setAt i y).list.length = A.list.length := by simp [Tab.setAt]
  refine ⟨rfl, ⟨b, g1, c1, g2, c2, g3, c3, rfl, ⟨(hf _ _ h2.n3).trans h2.f0, (hf _ _ h2.n3).trans h2.f1, (hf _ _ h2.n3).trans h2.f2, (hf _ _ h2.n3).trans (by rw [hl]; exact h2.f3),
    ⟨own_other h2.own.g _ _ (by simp [Value.ownBlock]; exact h2.own.n13), own_other h2.own.t _ _ (by simp [Value.ownBlock]; exact h2.own.n23), by rw [hl]; exact hst, h2.own.n12, h2.own.n13, h2.own.n23⟩, h2.hb, h2.n1, h2.n2, h2.n3⟩, HS2.out⟩, (Keeps.of_below hb).trans hk⟩
end Go.Proofs.YtmmbopaieffgeaaDoor
