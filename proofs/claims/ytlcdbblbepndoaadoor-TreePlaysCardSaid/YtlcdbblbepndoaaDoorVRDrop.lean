/- The document's own Drop and Add of a table, where there is such a slot; no condition but those that each row names. -/
import Derived.Test.YtlcdbblbepndoaaDoorVRActs
namespace Go.Proofs.YtlcdbblbepndoaaDoor
open Go.RowKit

set_option maxHeartbeats 4000000 in
set_option maxRecDepth 100000 in
theorem rdrop_some (S : Nat → Prop) (A : Tab) (hA : A.Good) (x : Int) (i : Nat) (hf : A.find x = some i) (gs ts ls : Value) (w : World) (h : RT S w A gs ts ls) (hS : ∀ b, S b → b < w.heap.size) :
    Calls Tryd.prog 29 #[rv A.kind gs ts ls, .int .i64 x] w (TabPost S w (A.dropAt i) 0) := by
  have hb0 : ∀ o o', Below w.heap.size w ((w.alloc o).alloc o') := fun o o' => ((Below.refl w.heap.size w).alloc (Nat.le_refl _) o).alloc (by simp) o'
  have HF := Lib.hid (fun w h => rfind_any S A hA x gs ts ls w h)
  have HC := Lib.hid (fun w h => rcopy_any S A hA gs ts ls w h)
  have HG := Lib.hid (drop_good hA hf)
  obtain ⟨hi, _⟩ := firstIn_inv hf
  have hi' : i < A.gens.length := hi
  have hll := hA.ll
  have hlt := hA.lt
  have n4 := hA.n4
  have gg := hA.g1 i hi'
  rw [hf] at HF
  have HR := Lib.hid (fun o o' => h.below (hb0 o o'))
  obtain ⟨p, cp, q, cq, r, cr, rfl, rfl, rfl⟩ := h.shapes
  have hil : i < A.list.length := by omega
  have hit : i < A.taken.length := by omega
  clear hf h hb0 hi hll hlt
  obtain ⟨gv, hgv⟩ : ∃ gv, gv = A.g i := ⟨_, rfl⟩
  rw [← hgv] at gg
  obtain ⟨gg0, gg1⟩ := gg
  have HGV := Lib.hid hgv
  clear hgv
  go_enter Tryd.func29, Tryd.ntmps29
  go_wp2_with fail
  refine (HF.out _ (HR.out _ _)).mono ?_
  rintro e w1 ⟨rfl, hb1⟩
  obtain ⟨hc1, hf1⟩ := bcell hb1
  have hval : optV (some i) = (i : Int) := rfl
  rw [hval]
  clear hval
  have y1 : w.heap.size + 1 < w1.heap.size := by have := hb1.size; simp at this; omega
  have y0 : w.heap.size < w1.heap.size := by omega
  have hbw1 : Below w.heap.size w w1 := (((Below.refl w.heap.size w).alloc (Nat.le_refl _) _).alloc (by simp) _).trans (hb1.mono (by simp; omega))
  have HR1 := Lib.hid ((HR.out _ _).below hb1)
  go_wp2_with fail
  refine (HC.out _ HR1.out).mono ?_
  rintro e w2 ⟨g1, d1, g2, d2, g3, d3, rfl, ho, hb2⟩
  obtain ⟨hc2, hf2⟩ := bcell hb2
  have HO := Lib.hid ho
  obtain ⟨l1, l2⟩ := ho.l.lt g3 (by simp [Value.ownBlock])
  obtain ⟨l3, l4⟩ := ho.t.lt g2 (by simp [Value.ownBlock])
  obtain ⟨l5, l6⟩ := ho.g.lt g1 (by simp [Value.ownBlock])
  have n12 := ho.n12
  have n13 := ho.n13
  have n23 := ho.n23
  have q1 := ho.l.cellAt i (by omega)
  rw [ints_at hil] at q1
  have q2 := ho.l.frozenAt i
  have q3 := ho.t.cellAt i (by omega)
  rw [bools_at hit] at q3
  have q4 := ho.t.frozenAt i
  have q5 := ho.g.cellAt i (by omega)
  rw [ints_at hi', show A.gens.getD i 0 = gv from HGV.out.symm] at q5
  have q6 := ho.g.frozenAt i
  have y2 : w.heap.size + 1 < w2.heap.size := Nat.lt_of_lt_of_le y1 hb2.size
  have y3 : w.heap.size < w2.heap.size := by omega
  have hbw2 : Below w.heap.size w w2 := bnext hbw1 hb2
  have z0 : (0 : Int) ≤ (i : Int) := by omega
  have z1 : (i : Int) < (A.list.length : Int) := by omega
  have z2 : (i : Int) < (A.gens.length : Int) := by omega
  have z3 : (i : Int) < (A.taken.length : Int) := by omega
  have n21 : ¬ g2 = g1 := fun e => n12 e.symm
  have n31 : ¬ g3 = g1 := fun e => n13 e.symm
  have n32 : ¬ g3 = g2 := fun e => n23 e.symm
  clear ho
  go_wp2_with fail
  have hO := HO.out
  have a1 := own_other hO.g ⟨g2, i, none⟩ (.bool false) (by simp [Value.ownBlock]; exact n12)
  have a2 := (a1.stored i (.int .i64 (gv + 1))).1
  rw [ints_set] at a2
  have a3 := own_other a2 ⟨g3, i, none⟩ (.int .i64 0) (by simp [Value.ownBlock]; exact n13)
  have b1 := (hO.t.stored i (.bool false)).1
  rw [bools_set] at b1
  have b2 := own_other b1 ⟨g1, i, none⟩ (.int .i64 (gv + 1)) (by simp [Value.ownBlock]; exact n21)
  have b3 := own_other b2 ⟨g3, i, none⟩ (.int .i64 0) (by simp [Value.ownBlock]; exact n23)
  have c1 := own_other hO.l ⟨g2, i, none⟩ (.bool false) (by simp [Value.ownBlock]; exact n32)
  have c2 := own_other c1 ⟨g1, i, none⟩ (.int .i64 (gv + 1)) (by simp [Value.ownBlock]; exact n31)
  have c3 := (c2.stored i (.int .i64 0)).1
  rw [ints_set] at c3
  have eg : (A.dropAt i).gens = A.gens.set i (gv + 1) := by rw [HGV.out]; rfl
  have et : (A.dropAt i).taken = A.taken.set i false := rfl
  have el : (A.dropAt i).list = A.list.set i 0 := rfl
  have ng : (A.dropAt i).gens.length = A.gens.length := by rw [eg]; simp
  have nt : (A.dropAt i).taken.length = A.taken.length := by rw [et]; simp
  have nl : (A.dropAt i).list.length = A.list.length := by rw [el]; simp
  have hrt0 : ∀ u0 u1 u2 u3 o, RT S ((((((((w2.setCell ⟨g2, i, none⟩ (.bool false)).setCell ⟨g1, i, none⟩ (.int .i64 (gv + 1))).setCell ⟨g3, i, none⟩ (.int .i64 0)).setCell ⟨w.heap.size + 1, 0, none⟩ u0).setCell ⟨w.heap.size + 1, 1, none⟩ u1).setCell ⟨w.heap.size + 1, 2, none⟩ u2).setCell ⟨w.heap.size + 1, 3, none⟩ u3).alloc o) (A.dropAt i)
      (.slice (some ⟨g1, 0, none⟩) (A.dropAt i).gens.length d1) (.slice (some ⟨g2, 0, none⟩) (A.dropAt i).taken.length d2) (.slice (some ⟨g3, 0, none⟩) (A.dropAt i).list.length d3) := fun u0 u1 u2 u3 o =>
    RT.of_own3 (B := w1.heap.size)
      ⟨own_tail (by rw [ng, eg]; exact a3) (w.heap.size + 1) (by simp [Value.ownBlock]; omega) u0 u1 u2 u3 o,
       own_tail (by rw [nt, et]; exact b3) (w.heap.size + 1) (by simp [Value.ownBlock]; omega) u0 u1 u2 u3 o,
       own_tail (by rw [nl, el]; exact c3) (w.heap.size + 1) (by simp [Value.ownBlock]; omega) u0 u1 u2 u3 o, n12, n13, n23⟩
      HG.out (fun b hb => by have := hS b hb; omega)
  rw [ng, nt, nl] at hrt0
  have t0 : w2.cell? ⟨w.heap.size + 1, 0, none⟩ = some (.int .i64 0) := by rw [hc2 _ _ y1, hc1 _ _ (by simp)]; simp
  have t1 : w2.cell? ⟨w.heap.size + 1, 1, none⟩ = some (.slice none 0 0) := by rw [hc2 _ _ y1, hc1 _ _ (by simp)]; simp
  have t2 : w2.cell? ⟨w.heap.size + 1, 2, none⟩ = some (.slice none 0 0) := by rw [hc2 _ _ y1, hc1 _ _ (by simp)]; simp
  have t3 : w2.cell? ⟨w.heap.size + 1, 3, none⟩ = some (.slice none 0 0) := by rw [hc2 _ _ y1, hc1 _ _ (by simp)]; simp
  have gs : w.heap.size + 1 < w2.heap.size := y2
  refine bodyPost_ret (v := .tuple #[rv A.kind (.slice (some ⟨g1, 0, none⟩) A.gens.length d1) (.slice (some ⟨g2, 0, none⟩) A.taken.length d2) (.slice (some ⟨g3, 0, none⟩) A.list.length d3), .int .i64 0]) ?r1 rfl ?_
  case r1 => simp [results, Tryd.results29, go_sem, t0, t1, t2, t3, gs]
  exact ⟨_, _, _, rfl, hrt0 _ _ _ _ _, below_tail (((hbw2.setCell (p := ⟨g2, i, none⟩) (by simp; omega) _).setCell (p := ⟨g1, i, none⟩) (by simp; omega) _).setCell (p := ⟨g3, i, none⟩) (by simp; omega) _) _ (by simp) _ _ _ _ _ (by simp [World.setCell]; omega)⟩

set_option maxHeartbeats 4000000 in
set_option maxRecDepth 100000 in
theorem radd_none (S : Nat → Prop) (A : Tab) (hA : A.Good) (v : Int) (hf : A.free = none) (gs ts ls : Value) (w : World) (h : RT S w A gs ts ls) :
    Calls Tryd.prog 20 #[rv A.kind gs ts ls, .int .i64 v] w fun e w' => ∃ gs ts ls, e = .returned (.tuple #[rv A.kind gs ts ls, .int .i64 0, .int .i64 30]) ∧ RT S w' A gs ts ls ∧ Below w.heap.size w w' := by
  have hb0 : ∀ o o', Below w.heap.size w ((w.alloc o).alloc o') := fun o o' => ((Below.refl w.heap.size w).alloc (Nat.le_refl _) o).alloc (by simp) o'
  have HF := Lib.hid (fun w h => rfree_any S A hA gs ts ls w h)
  rw [hf] at HF
  have HR := Lib.hid (fun o o' => h.below (hb0 o o'))
  have HH := Lib.hid h
  obtain ⟨p, cp, q, cq, r, cr, rfl, rfl, rfl⟩ := h.shapes
  clear hf h hb0
  go_enter Tryd.func20, Tryd.ntmps20
  go_wp2_with fail
  refine (HF.out _ (HR.out _ _)).mono ?_
  rintro e w1 ⟨rfl, hb1⟩
  obtain ⟨hc1, hf1⟩ := bcell hb1
  have hval : optV none = -1 := rfl
  rw [hval]
  clear hval
  have y1 : w.heap.size + 1 < w1.heap.size := by have := hb1.size; simp at this; omega
  have y0 : w.heap.size < w1.heap.size := by omega
  have hbw1 : Below w.heap.size w w1 := (((Below.refl w.heap.size w).alloc (Nat.le_refl _) _).alloc (by simp) _).trans (hb1.mono (by simp; omega))
  go_wp2_with fail
  have hB : ∀ u0 u1 u2 u3, Below w.heap.size w ((((w1.setCell ⟨w.heap.size + 1, 0, none⟩ u0).setCell ⟨w.heap.size + 1, 1, none⟩ u1).setCell ⟨w.heap.size + 1, 2, none⟩ u2).setCell ⟨w.heap.size + 1, 3, none⟩ u3) :=
    fun u0 u1 u2 u3 => (((hbw1.setCell (by simp) u0).setCell (by simp) u1).setCell (by simp) u2).setCell (by simp) u3
  refine bodyPost_ret (v := .tuple #[rv A.kind (.slice p A.gens.length cp) (.slice q A.taken.length cq) (.slice r A.list.length cr), .int .i64 0, .int .i64 30]) ?r1 rfl ?_
  case r1 => simp [results, Tryd.results20, go_sem, hc1]
  exact ⟨_, _, _, rfl, HH.out.below (hB _ _ _ _), hB _ _ _ _⟩
end Go.Proofs.YtlcdbblbepndoaaDoor
