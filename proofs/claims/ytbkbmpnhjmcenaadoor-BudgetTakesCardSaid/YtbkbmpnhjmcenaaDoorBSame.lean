/- The program's Resize to what runs: nothing is pending then; for every budget; no condition. -/
import Derived.Test.YtbkbmpnhjmcenaaDoorBNew
namespace Go.Proofs.YtbkbmpnhjmcenaaDoor
open Go.RowKit

/-- Two cells of a block that are written twice. -/
theorem twice {W : World} {b : Nat} {x2 x3 : Value} (h2 : W.cell? ⟨b, 2, none⟩ = some x2) (h3 : W.cell? ⟨b, 3, none⟩ = some x3) (a1 a2 a3 a4 : Value) :
    ((((W.setCell ⟨b, 2, none⟩ a1).setCell ⟨b, 3, none⟩ a2).setCell ⟨b, 2, none⟩ a3).setCell ⟨b, 3, none⟩ a4).cell? ⟨b, 2, none⟩ = some a3 ∧
    ((((W.setCell ⟨b, 2, none⟩ a1).setCell ⟨b, 3, none⟩ a2).setCell ⟨b, 2, none⟩ a3).setCell ⟨b, 3, none⟩ a4).cell? ⟨b, 3, none⟩ = some a4 := by
  have e1 : (W.setCell ⟨b, 2, none⟩ a1).cell? ⟨b, 2, none⟩ = some a1 := World.cell?_setCell_same _ _ _ h2
  have e2 : (W.setCell ⟨b, 2, none⟩ a1).cell? ⟨b, 3, none⟩ = some x3 := (World.cell?_setCell_other _ _ _ _ (by simp)).trans h3
  have f1 : ((W.setCell ⟨b, 2, none⟩ a1).setCell ⟨b, 3, none⟩ a2).cell? ⟨b, 2, none⟩ = some a1 := (World.cell?_setCell_other _ _ _ _ (by simp)).trans e1
  have f2 : ((W.setCell ⟨b, 2, none⟩ a1).setCell ⟨b, 3, none⟩ a2).cell? ⟨b, 3, none⟩ = some a2 := World.cell?_setCell_same _ _ _ e2
  have g1 : (((W.setCell ⟨b, 2, none⟩ a1).setCell ⟨b, 3, none⟩ a2).setCell ⟨b, 2, none⟩ a3).cell? ⟨b, 2, none⟩ = some a3 := World.cell?_setCell_same _ _ _ f1
  have g2 : (((W.setCell ⟨b, 2, none⟩ a1).setCell ⟨b, 3, none⟩ a2).setCell ⟨b, 2, none⟩ a3).cell? ⟨b, 3, none⟩ = some a2 := (World.cell?_setCell_other _ _ _ _ (by simp)).trans f2
  exact ⟨(World.cell?_setCell_other _ _ _ _ (by simp)).trans g1, World.cell?_setCell_same _ _ _ g2⟩
set_option maxHeartbeats 8000000 in
theorem rs_same (q p nq np : Int) (l s y : Int) (w : World) (h : okB q p nq np l s y) (g : okR q p) :
    Calls Tryd.prog 17 #[.agg #[.int .i64 q, .int .i64 p, .int .i64 nq, .int .i64 np, .bool false, .int .i64 l, .int .i64 s, .int .i64 y], .agg #[.int .i64 q, .int .i64 p]] w fun e w' => e = .returned (.tuple #[.agg #[.int .i64 q, .int .i64 p, .int .i64 0, .int .i64 0, .bool false, .int .i64 l, .int .i64 s, .int .i64 y], .nilIface]) ∧ Below w.heap.size w w' := by
  have HV := Lib.hid h
  have HR := Lib.hid g
  clear h g
  go_enter Tryd.func17, Tryd.ntmps17
  go_wp2_with fail
  refine (bvalid_ok q p nq np _ l s y _ HV.out).mono ?_
  rintro e w1 ⟨rfl, hb1⟩
  obtain ⟨hc1, hf1⟩ := bcell hb1
  have hz1 : w.heap.size + 1 + 1 < w1.heap.size := by have := hb1.size; simp at this; omega
  have hy1 : w.heap.size + 1 < w1.heap.size := by omega
  have hx1 : w.heap.size < w1.heap.size := by omega
  go_wp2_with fail
  refine (valid_ok q p _ HR.out).mono ?_
  rintro e w2 ⟨rfl, hb2⟩
  obtain ⟨hc2, hf2⟩ := bcell hb2
  have hz2 : w.heap.size + 1 + 1 < w2.heap.size := by have := hb2.size; omega
  have hy2 : w.heap.size + 1 < w2.heap.size := by omega
  have hx2 : w.heap.size < w2.heap.size := by omega
  have c0 : w2.cell? ⟨w.heap.size, 0, none⟩ = some (.int .i64 q) := by rw [hc2 (w.heap.size) 0 (by omega), hc1 (w.heap.size) 0 (by simp <;> omega)]; go_simp
  have c1 : w2.cell? ⟨w.heap.size, 1, none⟩ = some (.int .i64 p) := by rw [hc2 (w.heap.size) 1 (by omega), hc1 (w.heap.size) 1 (by simp <;> omega)]; go_simp
  have c2 : w2.cell? ⟨w.heap.size, 2, none⟩ = some (.int .i64 nq) := by rw [hc2 (w.heap.size) 2 (by omega), hc1 (w.heap.size) 2 (by simp <;> omega)]; go_simp
  have c3 : w2.cell? ⟨w.heap.size, 3, none⟩ = some (.int .i64 np) := by rw [hc2 (w.heap.size) 3 (by omega), hc1 (w.heap.size) 3 (by simp <;> omega)]; go_simp
  have c4 : w2.cell? ⟨w.heap.size, 4, none⟩ = some (.bool false) := by rw [hc2 (w.heap.size) 4 (by omega), hc1 (w.heap.size) 4 (by simp <;> omega)]; go_simp
  have c5 : w2.cell? ⟨w.heap.size, 5, none⟩ = some (.int .i64 l) := by rw [hc2 (w.heap.size) 5 (by omega), hc1 (w.heap.size) 5 (by simp <;> omega)]; go_simp
  have c6 : w2.cell? ⟨w.heap.size, 6, none⟩ = some (.int .i64 s) := by rw [hc2 (w.heap.size) 6 (by omega), hc1 (w.heap.size) 6 (by simp <;> omega)]; go_simp
  have c7 : w2.cell? ⟨w.heap.size, 7, none⟩ = some (.int .i64 y) := by rw [hc2 (w.heap.size) 7 (by omega), hc1 (w.heap.size) 7 (by simp <;> omega)]; go_simp
  have d0 : w2.cell? ⟨w.heap.size + 1, 0, none⟩ = some (.int .i64 q) := by rw [hc2 (w.heap.size + 1) 0 (by omega), hc1 (w.heap.size + 1) 0 (by simp <;> omega)]; go_simp
  have d1 : w2.cell? ⟨w.heap.size + 1, 1, none⟩ = some (.int .i64 p) := by rw [hc2 (w.heap.size + 1) 1 (by omega), hc1 (w.heap.size + 1) 1 (by simp <;> omega)]; go_simp
  have z0 : w2.cell? ⟨w.heap.size + 1 + 1, 0, none⟩ = some (.int .i64 0) := by rw [hc2 (w.heap.size + 1 + 1) 0 (by omega), hc1 (w.heap.size + 1 + 1) 0 (by simp <;> omega)]; go_simp
  have z1 : w2.cell? ⟨w.heap.size + 1 + 1, 1, none⟩ = some (.int .i64 0) := by rw [hc2 (w.heap.size + 1 + 1) 1 (by omega), hc1 (w.heap.size + 1 + 1) 1 (by simp <;> omega)]; go_simp
  have z2 : w2.cell? ⟨w.heap.size + 1 + 1, 2, none⟩ = some (.int .i64 0) := by rw [hc2 (w.heap.size + 1 + 1) 2 (by omega), hc1 (w.heap.size + 1 + 1) 2 (by simp <;> omega)]; go_simp
  have z3 : w2.cell? ⟨w.heap.size + 1 + 1, 3, none⟩ = some (.int .i64 0) := by rw [hc2 (w.heap.size + 1 + 1) 3 (by omega), hc1 (w.heap.size + 1 + 1) 3 (by simp <;> omega)]; go_simp
  have z4 : w2.cell? ⟨w.heap.size + 1 + 1, 4, none⟩ = some (.bool false) := by rw [hc2 (w.heap.size + 1 + 1) 4 (by omega), hc1 (w.heap.size + 1 + 1) 4 (by simp <;> omega)]; go_simp
  have z5 : w2.cell? ⟨w.heap.size + 1 + 1, 5, none⟩ = some (.int .i64 0) := by rw [hc2 (w.heap.size + 1 + 1) 5 (by omega), hc1 (w.heap.size + 1 + 1) 5 (by simp <;> omega)]; go_simp
  have z6 : w2.cell? ⟨w.heap.size + 1 + 1, 6, none⟩ = some (.int .i64 0) := by rw [hc2 (w.heap.size + 1 + 1) 6 (by omega), hc1 (w.heap.size + 1 + 1) 6 (by simp <;> omega)]; go_simp
  have z7 : w2.cell? ⟨w.heap.size + 1 + 1, 7, none⟩ = some (.int .i64 0) := by rw [hc2 (w.heap.size + 1 + 1) 7 (by omega), hc1 (w.heap.size + 1 + 1) 7 (by simp <;> omega)]; go_simp
  clear hc1 hc2
  obtain ⟨t2, t3⟩ := twice c2 c3 (.int .i64 q) (.int .i64 p) (.int .i64 0) (.int .i64 0)
  go_wp2_with fail
  exact bodyPost_ret (v := .tuple #[.agg #[.int .i64 q, .int .i64 p, .int .i64 0, .int .i64 0, .bool false, .int .i64 l, .int .i64 s, .int .i64 y], .nilIface]) (by simp [results, Tryd.results17, go_sem, z0, z1, z2, z3, z4, z5, z6, z7]) rfl ⟨rfl, below_set8 (((((bnext (bnext ((((Below.refl _ _).alloc (Nat.le_refl _) _).alloc (by simp) _).alloc (by simp; omega) _) hb1) hb2).setCell (by simp) _).setCell (by simp) _).setCell (by simp) _).setCell (by simp) _) (by omega) _ _ _ _ _ _ _ _⟩

end Go.Proofs.YtbkbmpnhjmcenaaDoor
