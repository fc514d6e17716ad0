/- The program's Drop of a table; no condition but those that each row names. -/
import Derived.Test.YtlcdbblbepndoaaDoorVProg
import Derived.RegionTactic
import Derived.ChangeAlike
import Derived.Deep.DeepCutAuto
import Derived.BigRegion
namespace Go.Proofs.YtlcdbblbepndoaaDoor
open Go.RowKit

set_option maxHeartbeats 1000000 in
set_option maxRecDepth 100000 in
theorem pdrop_none (S : Nat → Prop) (B : Nat) (A : Tab) (hA : A.Good) (w : World) (v : Value) (h : PTab S B w A v) (x : Int) (hf : A.find x = none) :
    Calls Tryd.prog 28 #[v, .int .i64 x] w (ActPost S B w A v (errV 20)) := by
  have HP := Lib.hid h
  obtain ⟨b, g1, c1, g2, c2, g3, c3, rfl, h, _⟩ := h
  have HF := Lib.hid (pfind B A hA w b g1 c1 g2 c2 g3 c3 h x)
  rw [findV_none hf] at HF
  clear hf h hA
  go_enter Tryd.func28, Tryd.ntmps28
  go_wp2_with fail
  refine HF.out.mono ?_
  rintro e w1 ⟨rfl, hb⟩
  go_wp2_with fail
  go_ret
  exact ⟨rfl, HP.out.below hb, Keeps.of_below hb⟩

/-- A row's store, the other rows. -/
theorem own3_list {B : Nat} {w : World} {A : Tab} {g1 c1 g2 c2 g3 c3 : Nat} (h : OwnV B w A g1 c1 g2 c2 g3 c3) (i : Nat) (y : Int) :
    OwnV B (w.setCell ⟨g3, i, none⟩ (.int .i64 y)) { A with list := A.list.set i y } g1 c1 g2 c2 g3 c3 := by
  have hst := (h.l.stored i (.int .i64 y)).1
  rw [ints_set] at hst
  exact ⟨own_other h.g _ _ (by simp [Value.ownBlock]; exact h.n13), own_other h.t _ _ (by simp [Value.ownBlock]; exact h.n23), by simpa using hst, h.n12, h.n13, h.n23⟩
theorem own3_taken {B : Nat} {w : World} {A : Tab} {g1 c1 g2 c2 g3 c3 : Nat} (h : OwnV B w A g1 c1 g2 c2 g3 c3) (i : Nat) (y : Bool) :
    OwnV B (w.setCell ⟨g2, i, none⟩ (.bool y)) { A with taken := A.taken.set i y } g1 c1 g2 c2 g3 c3 := by
  have hst := (h.t.stored i (.bool y)).1
  rw [bools_set] at hst
  exact ⟨own_other h.g _ _ (by simp [Value.ownBlock]; exact h.n12), by simpa using hst, own_other h.l _ _ (by simp [Value.ownBlock]; exact fun e => h.n23 e.symm), h.n12, h.n13, h.n23⟩
theorem own3_gens {B : Nat} {w : World} {A : Tab} {g1 c1 g2 c2 g3 c3 : Nat} (h : OwnV B w A g1 c1 g2 c2 g3 c3) (i : Nat) (y : Int) :
    OwnV B (w.setCell ⟨g1, i, none⟩ (.int .i64 y)) { A with gens := A.gens.set i y } g1 c1 g2 c2 g3 c3 := by
  have hst := (h.g.stored i (.int .i64 y)).1
  rw [ints_set] at hst
  exact ⟨by simpa using hst, own_other h.t _ _ (by simp [Value.ownBlock]; exact fun e => h.n12 e.symm), own_other h.l _ _ (by simp [Value.ownBlock]; exact fun e => h.n13 e.symm), h.n12, h.n13, h.n23⟩
theorem PT.list {B : Nat} {w : World} {A : Tab} {b g1 c1 g2 c2 g3 c3 : Nat} (h : PT B w A b g1 c1 g2 c2 g3 c3) (i : Nat) (y : Int) : PT B (w.setCell ⟨g3, i, none⟩ (.int .i64 y)) { A with list := A.list.set i y } b g1 c1 g2 c2 g3 c3 := by
  have hf : ∀ o, (w.setCell ⟨g3, i, none⟩ (.int .i64 y)).cell? ⟨b, o, none⟩ = w.cell? ⟨b, o, none⟩ := fun o => World.cell?_setCell_far _ _ _ _ (fun e => h.n3 e.symm)
  exact ⟨(hf _).trans h.f0, (hf _).trans h.f1, (hf _).trans h.f2, (hf _).trans (by simpa using h.f3), own3_list h.own i y, h.hb, h.n1, h.n2, h.n3⟩
theorem PT.taken {B : Nat} {w : World} {A : Tab} {b g1 c1 g2 c2 g3 c3 : Nat} (h : PT B w A b g1 c1 g2 c2 g3 c3) (i : Nat) (y : Bool) : PT B (w.setCell ⟨g2, i, none⟩ (.bool y)) { A with taken := A.taken.set i y } b g1 c1 g2 c2 g3 c3 := by
  have hf : ∀ o, (w.setCell ⟨g2, i, none⟩ (.bool y)).cell? ⟨b, o, none⟩ = w.cell? ⟨b, o, none⟩ := fun o => World.cell?_setCell_far _ _ _ _ (fun e => h.n2 e.symm)
  exact ⟨(hf _).trans h.f0, (hf _).trans h.f1, (hf _).trans (by simpa using h.f2), (hf _).trans h.f3, own3_taken h.own i y, h.hb, h.n1, h.n2, h.n3⟩
theorem PT.gens {B : Nat} {w : World} {A : Tab} {b g1 c1 g2 c2 g3 c3 : Nat} (h : PT B w A b g1 c1 g2 c2 g3 c3) (i : Nat) (y : Int) : PT B (w.setCell ⟨g1, i, none⟩ (.int .i64 y)) { A with gens := A.gens.set i y } b g1 c1 g2 c2 g3 c3 := by
  have hf : ∀ o, (w.setCell ⟨g1, i, none⟩ (.int .i64 y)).cell? ⟨b, o, none⟩ = w.cell? ⟨b, o, none⟩ := fun o => World.cell?_setCell_far _ _ _ _ (fun e => h.n1 e.symm)
  exact ⟨(hf _).trans h.f0, (hf _).trans (by simpa using h.f1), (hf _).trans h.f2, (hf _).trans h.f3, own3_gens h.own i y, h.hb, h.n1, h.n2, h.n3⟩
theorem PT.drew {B : Nat} {w : World} {A : Tab} {b g1 c1 g2 c2 g3 c3 : Nat} (h : PT B w A b g1 c1 g2 c2 g3 c3) : PT B w.drew A b g1 c1 g2 c2 g3 c3 :=
  h.keeps (S := fun _ => False) ((Keeps.refl _ w).drew) (fun k => k) (fun k => k) (fun k => k) (fun k => k)

set_option maxHeartbeats 1000000 in
set_option maxRecDepth 100000 in
theorem pdrop_some (S : Nat → Prop) (B : Nat) (A : Tab) (hA : A.Good) (w : World) (v : Value) (h : PTab S B w A v) (x : Int) (i : Nat) (hf : A.find x = some i) :
    Calls Tryd.prog 28 #[v, .int .i64 x] w (ActPost S B w (A.dropAt i) v .nilIface) := by
  obtain ⟨b, g1, c1, g2, c2, g3, c3, rfl, h, HS⟩ := h
  have HF := Lib.hid (pfind B A hA w b g1 c1 g2 c2 g3 c3 h x)
  rw [findV_some hf] at HF
  obtain ⟨hi, _, _⟩ := find_inv hf
  have hll := hA.ll
  have hlt := hA.lt
  have n4 := hA.n4
  obtain ⟨gg0, gg1⟩ := hA.g1 i hi
  have HP := Lib.hid (fun w1 (hb : Below w.heap.size w w1) => h.keeps (S := fun _ => False) (Keeps.of_below hb) (fun k => k) (fun k => k) (fun k => k) (fun k => k))
  clear hf h hA
  have HS2 := Lib.hid HS
  clear HS
  go_enter Tryd.func28, Tryd.ntmps28
  go_wp2_with fail
  refine HF.out.mono ?_
  rintro e w1 ⟨rfl, hb⟩
  have h1 := HP.out w1 hb
  have H1 := Lib.hid h1
  have f2 := h1.f2
  have f3 := h1.f3
  have q := h1.own.l.cellAt i (by omega)
  have q2 := h1.own.l.frozenAt i
  have q3 := h1.own.t.cellAt i (by omega)
  have q4 := h1.own.t.frozenAt i
  have n23 := h1.own.n23
  have n32 : ¬ g3 = g2 := fun e => n23 e.symm
  have m2 := h1.n2
  have m3 := h1.n3
  rw [ints_at (by omega)] at q
  rw [bools_at (by omega)] at q3
  rw [hll] at f3
  rw [hlt] at f2
  have z0 : (0 : Int) ≤ (i : Int) := by omega
  have z1 : (i : Int) < (A.gens.length : Int) := by omega
  clear h1
  have HLL := Lib.hid hll
  have HLT := Lib.hid hlt
  clear hll hlt
  go_upto_region 5 with fail
  go_cut [] (fun wx => Hid (PT B wx { A with taken := A.taken.set i false, list := A.list.set i 0 } b g1 c1 g2 c2 g3 c3) ∧ Hid (Keeps S w1 wx))
  case first =>
    go_region
    go_wp2_with fail
    go_meet
    exact ⟨Lib.hid ((H1.out.taken i false).list i 0).drew, Lib.hid (((Keeps.refl S w1).setCell _ _ (by rw [HS2.out]; simp)).setCell _ _ (by rw [HS2.out]; simp)).drew⟩
  case rest =>
    obtain ⟨K1, K2⟩ := hcut
    have f1 := K1.out.f1
    simp only at f1
    have p1 := K1.out.own.g.cellAt i (by simp; omega)
    have p2 := K1.out.own.g.frozenAt i
    simp only [] at p1
    rw [ints_at hi] at p1
    clear q q2 q3 q4 f2 f3
    have hg : A.gens.getD i 0 = A.g i := rfl
    rw [hg] at p1
    go_wp2_with fail
    go_ret
    refine ⟨rfl, ⟨b, g1, c1, g2, c2, g3, c3, rfl, ?_, HS2.out⟩, ?_⟩
    · exact K1.out.gens i (A.g i + 1)
    · exact ((Keeps.of_below hb).trans K2.out).trans ((Keeps.refl S _).setCell _ _ (by rw [HS2.out]; simp))
end Go.Proofs.YtlcdbblbepndoaaDoor
