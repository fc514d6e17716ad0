/- The law's own step, anything else; no condition but those that each row names. -/
import Derived.Test.YtmmbopaieffgeaaDoorSStep
namespace Go.Proofs.YtmmbopaieffgeaaDoor
open Go.RowKit

set_option maxHeartbeats 8000000 in
set_option maxRecDepth 100000 in
theorem step_else (S T : Nat → Prop) (B : Nat) (A : Tab) (hA : A.Good) (k h x : Int) (k0 : k ≠ 0) (k1 : k ≠ 1) (k2 : k ≠ 2) (k3 : k ≠ 3) (v gs ts ls : Value) (w : World) (hin : StepIn S T B w A v gs ts ls) :
    Calls Tryd.prog 13 #[v, rv A.kind gs ts ls, .agg #[.int .i64 k, .int .i64 h, .int .i64 x]] w (StepPost S T B w A v) := by
  obtain ⟨hpt, hrt, hst, hlt, hb0, hlaid⟩ := hin
  have hSl : ∀ y, S y → y < w.heap.size := fun y k => hlt y (hst y k)
  have JP := Lib.hid (fun W (hb : Below w.heap.size w W) => same_slots T S B A hA v gs ts ls W (hpt.below hb) (hrt.below hb) (fun y k => Nat.lt_of_lt_of_le (hlt y k) hb.size))
  have JT := Lib.hid hpt
  have JL := Lib.hid hlaid
  have JRT := Lib.hid hrt
  have JSL := Lib.hid hSl
  obtain ⟨b, _, _, _, _, _, _, rfl, _, hSx⟩ := hpt
  clear hSx
  obtain ⟨p, cp, q, cq, r, cr, rfl, rfl, rfl⟩ := hrt.shapes
  clear hA hlaid hrt hst hlt hSl
  go_enter Tryd.func13, Tryd.ntmps13
  have hb3 : ∀ o o' o'', Below w.heap.size w (((w.alloc o).alloc o').alloc o'') := fun o o' o'' => below_alloc (below_alloc (below_alloc (Below.refl _ _) o) o') o''
  have q0 : ((k : Int) == 0) = false := by rw [beq_eq_false_iff_ne]; exact k0
  have q1 : ((k : Int) == 1) = false := by rw [beq_eq_false_iff_ne]; exact k1
  have q2 : ((k : Int) == 2) = false := by rw [beq_eq_false_iff_ne]; exact k2
  have q3 : ((k : Int) == 3) = false := by rw [beq_eq_false_iff_ne]; exact k3
  obtain ⟨m0, m1, m2, m3⟩ := al3 w #[.int .i64 A.kind, .slice p A.gens.length cp, .slice q A.taken.length cq, .slice r A.list.length cr] #[.int .i64 k, .int .i64 h, .int .i64 x] #[.int .i64 0, .slice none 0 0, .slice none 0 0, .slice none 0 0] 30 42 30
  have M0 := Lib.hid m0
  have M2 := Lib.hid m2
  have M3 := Lib.hid m3
  clear m0 m1 m2 m3
  go_upto_region 18 with fail
  generalize hW0 : ((w.alloc (.cells #[.int .i64 A.kind, .slice p A.gens.length cp, .slice q A.taken.length cq, .slice r A.list.length cr] 30)).alloc (.cells #[.int .i64 k, .int .i64 h, .int .i64 x] 42)).alloc (.cells #[.int .i64 0, .slice none 0 0, .slice none 0 0, .slice none 0 0] 30) = W0 at *
  have hsW : W0.heap.size = w.heap.size + 1 + 1 + 1 := by rw [← hW0]; simp
  have hB0 : Below w.heap.size w W0 := by rw [← hW0]; exact hb3 _ _ _
  have HB0 := Lib.hid hB0
  have HSW := Lib.hid hsW
  have hlW : w.heap.size + 1 + 1 < W0.heap.size := by omega
  clear hW0 hb3 hB0 hsW
  have HX := Lib.hid (show ∀ W, Below W0.heap.size W0 W → (W.cell? ⟨w.heap.size + 1 + 1, 0, none⟩ = some (.int .i64 0) ∧ W.cell? ⟨w.heap.size + 1 + 1, 1, none⟩ = some (.slice none 0 0) ∧ W.cell? ⟨w.heap.size + 1 + 1, 2, none⟩ = some (.slice none 0 0) ∧ W.cell? ⟨w.heap.size + 1 + 1, 3, none⟩ = some (.slice none 0 0) ∧ (∀ j, W.frozen? ⟨w.heap.size + 1 + 1, j, none⟩ = false)) from fun W hW => by
    have j2 : ∀ j, W.cell? ⟨w.heap.size + 1 + 1, j, none⟩ = _ := fun j => (hW.cell (p := ⟨w.heap.size + 1 + 1, j, none⟩) hlW).trans (M2.out j)
    exact ⟨j2 0, j2 1, j2 2, j2 3, fun j => (hW.frozen (p := ⟨w.heap.size + 1 + 1, j, none⟩) hlW).trans (M3.out j)⟩)
  have x0 := M0.out 0
  have x1 := M0.out 1
  have x2 := M0.out 2
  have x3 := M0.out 3
  simp only [List.getElem?_toArray, List.getElem?_cons_zero, List.getElem?_cons_succ] at x0 x1 x2 x3
  have HY := Lib.hid (show ∀ W, Keeps (fun y => y = w.heap.size + 1 + 1) W0 W → (W.cell? ⟨w.heap.size, 0, none⟩ = some (.int .i64 A.kind) ∧ W.cell? ⟨w.heap.size, 1, none⟩ = some (.slice p A.gens.length cp) ∧ W.cell? ⟨w.heap.size, 2, none⟩ = some (.slice q A.taken.length cq) ∧ W.cell? ⟨w.heap.size, 3, none⟩ = some (.slice r A.list.length cr) ∧ Keeps (fun y => y = w.heap.size + 1 + 1) W0 W) from fun W hW =>
    have hl : w.heap.size < W0.heap.size := by omega
    ⟨(hW.cell (p := ⟨w.heap.size, 0, none⟩) hl (by simp only; omega)).trans x0, (hW.cell (p := ⟨w.heap.size, 1, none⟩) hl (by simp only; omega)).trans x1, (hW.cell (p := ⟨w.heap.size, 2, none⟩) hl (by simp only; omega)).trans x2, (hW.cell (p := ⟨w.heap.size, 3, none⟩) hl (by simp only; omega)).trans x3, hW⟩)
  go_region_held3 (fun w' => w'.cell? ⟨w.heap.size, 0, none⟩ = some (.int .i64 A.kind) ∧ w'.cell? ⟨w.heap.size, 1, none⟩ = some (.slice p A.gens.length cp) ∧ w'.cell? ⟨w.heap.size, 2, none⟩ = some (.slice q A.taken.length cq) ∧ w'.cell? ⟨w.heap.size, 3, none⟩ = some (.slice r A.list.length cr) ∧ Keeps (fun y => y = w.heap.size + 1 + 1) W0 w')
    (first | exact HY.out _ (Keeps.refl _ _) | exact HY.out _ (Keeps.refl _ _).drew | (go_split_ands; exact HY.out _ (Keeps.trans (by assumption) (Keeps.of_below hb))) | (go_split_ands; exact HY.out _ (keeps_four _ _ (by assumption) rfl)))
    (first | (go_at_call 11; refine (JP.out _ (HB0.out.trans (below_drewOne.mono (by omega)))).mono ?_; rintro e wn ⟨rfl, hb⟩; obtain ⟨r0, r1, r2, r3, rf⟩ := HX.out wn (below_drewOne.trans hb)))
  go_split_ands
  go_wp2_with fail
  refine bodyPost_ret (v := .tuple #[rv A.kind (.slice p A.gens.length cp) (.slice q A.taken.length cq) (.slice r A.list.length cr), .bool true]) ?r1 rfl ?_
  case r1 => simp [results, Tryd.results13, go_sem, r0, r1, r2, r3]
  have hk : Keeps (fun _ => False) w W0 := Keeps.of_below HB0.out
  refine ⟨_, _, _, rfl, ?_, ?_, ?_⟩
  · exact (JT.out.keeps hk (fun _ _ k => k)).keeps (by assumption) (fun y hy => by have := JSL.out y hy; omega)
  · exact (((JRT.out.mono (T := fun y => T y ∨ y = w.heap.size + 1 + 1) (fun y hy h => by rcases h with h | h; exact h; omega)).keeps2 hk (fun _ k => k.elim)).keeps2 (by assumption) (fun y hy => .inr hy)).mono (fun y _ hy => .inl hy)
  · exact step_keeps (H := w.heap.size + 1 + 1) (hk.mono (fun _ k => k.elim)) (by assumption) (by omega)
end Go.Proofs.YtmmbopaieffgeaaDoor
