/- The law's own step, a Get; no condition but those that each row names. -/
import Derived.Test.YtmmbopaieffgeaaDoorSStep
namespace Go.Proofs.YtmmbopaieffgeaaDoor
open Go.RowKit

set_option maxHeartbeats 8000000 in
set_option maxRecDepth 100000 in
theorem step_get (S T : Nat → Prop) (B : Nat) (A : Tab) (yv n h x : Int) (v gs ts ls : Value) (w : World) (hin : StepIn S T B w A v gs ts ls)
    (HP : ∀ W, PTab S B W A v → Calls Tryd.prog 18 #[v, .int .i64 h] W fun e w' => e = .returned (.tuple #[.int .i64 yv, errV n]) ∧ Below W.heap.size W w')
    (HR : ∀ W, RT T W A gs ts ls → Calls Tryd.prog 32 #[rv A.kind gs ts ls, .int .i64 h] W fun e w' => e = .returned (.tuple #[.int .i64 yv, .int .i64 n]) ∧ Below W.heap.size W w') :
    Calls Tryd.prog 13 #[v, rv A.kind gs ts ls, .agg #[.int .i64 1, .int .i64 h, .int .i64 x]] w (StepPost S T B w A v) := by
  obtain ⟨hpt, hrt, hst, hlt, hb0, hlaid⟩ := hin
  have hSl : ∀ y, S y → y < w.heap.size := fun y k => hlt y (hst y k)
  have JP := Lib.hid HP
  have JR := Lib.hid HR
  have JT := Lib.hid hpt
  have JL := Lib.hid hlaid
  have JRT := Lib.hid hrt
  have JSL := Lib.hid hSl
  obtain ⟨b, _, _, _, _, _, _, rfl, _, hSx⟩ := hpt
  clear hSx
  obtain ⟨p, cp, q, cq, r, cr, rfl, rfl, rfl⟩ := hrt.shapes
  clear HP HR hlaid hrt hst hlt hSl
  go_enter Tryd.func13, Tryd.ntmps13
  go_wp2_with fail
  have hb3 : ∀ o o' o'', Below w.heap.size w (((w.alloc o).alloc o').alloc o'') := fun o o' o'' => below_alloc (below_alloc (below_alloc (Below.refl _ _) o) o') o''
  refine (JP.out _ (JT.out.below (hb3 _ _ _))).mono ?_
  rintro e w1 ⟨rfl, hk1⟩
  have hsz1 := hk1.size
  simp at hsz1
  have hbw1 : Below w.heap.size w w1 := (hb3 _ _ _).trans (hk1.mono (by simp; omega))
  have HBW1 := Lib.hid hbw1
  obtain ⟨m0, m1, m2, m3⟩ := al3 w #[.int .i64 A.kind, .slice p A.gens.length cp, .slice q A.taken.length cq, .slice r A.list.length cr] #[.int .i64 1, .int .i64 h, .int .i64 x] #[.int .i64 0, .slice none 0 0, .slice none 0 0, .slice none 0 0] 30 42 30
  have HX := Lib.hid (show ∀ W, Below w1.heap.size w1 W → (W.cell? ⟨w.heap.size, 0, none⟩ = some (.int .i64 A.kind) ∧ W.cell? ⟨w.heap.size, 1, none⟩ = some (.slice p A.gens.length cp) ∧ W.cell? ⟨w.heap.size, 2, none⟩ = some (.slice q A.taken.length cq) ∧ W.cell? ⟨w.heap.size, 3, none⟩ = some (.slice r A.list.length cr) ∧ W.cell? ⟨w.heap.size + 1, 1, none⟩ = some (.int .i64 h) ∧
      W.cell? ⟨w.heap.size + 1 + 1, 0, none⟩ = some (.int .i64 0) ∧ W.cell? ⟨w.heap.size + 1 + 1, 1, none⟩ = some (.slice none 0 0) ∧ W.cell? ⟨w.heap.size + 1 + 1, 2, none⟩ = some (.slice none 0 0) ∧ W.cell? ⟨w.heap.size + 1 + 1, 3, none⟩ = some (.slice none 0 0) ∧ (∀ j, W.frozen? ⟨w.heap.size + 1 + 1, j, none⟩ = false)) from fun W hW => by
    have hh := bnext hk1 hW
    have j0 : ∀ j, W.cell? ⟨w.heap.size, j, none⟩ = _ := fun j => (hh.cell (p := ⟨w.heap.size, j, none⟩) (by simp; omega)).trans (m0 j)
    have j1 : ∀ j, W.cell? ⟨w.heap.size + 1, j, none⟩ = _ := fun j => (hh.cell (p := ⟨w.heap.size + 1, j, none⟩) (by simp)).trans (m1 j)
    have j2 : ∀ j, W.cell? ⟨w.heap.size + 1 + 1, j, none⟩ = _ := fun j => (hh.cell (p := ⟨w.heap.size + 1 + 1, j, none⟩) (by simp)).trans (m2 j)
    exact ⟨j0 0, j0 1, j0 2, j0 3, j1 1, j2 0, j2 1, j2 2, j2 3, fun j => (hh.frozen (p := ⟨w.heap.size + 1 + 1, j, none⟩) (by simp)).trans (m3 j)⟩)
  clear m0 m1 m2 m3 hbw1 hk1
  obtain ⟨a0, a1, a2, a3, a4, _, _, _, _, _⟩ := HX.out w1 (Below.refl _ _)
  go_wp2_with fail
  refine (JR.out _ (JRT.out.below HBW1.out)).mono ?_
  rintro e W0 ⟨rfl, hb2⟩
  have HB2 := Lib.hid hb2
  clear a0 a1 a2 a3 a4
  obtain ⟨x0, x1, x2, x3, _, _, _, _, _, _⟩ := HX.out W0 HB2.out
  have hsW := HB2.out.size
  have HY := Lib.hid (show ∀ W, Keeps (fun y => y = w.heap.size + 1 + 1) W0 W → (W.cell? ⟨w.heap.size, 0, none⟩ = some (.int .i64 A.kind) ∧ W.cell? ⟨w.heap.size, 1, none⟩ = some (.slice p A.gens.length cp) ∧ W.cell? ⟨w.heap.size, 2, none⟩ = some (.slice q A.taken.length cq) ∧ W.cell? ⟨w.heap.size, 3, none⟩ = some (.slice r A.list.length cr) ∧ Keeps (fun y => y = w.heap.size + 1 + 1) W0 W) from fun W hW =>
    have hl : w.heap.size < W0.heap.size := by omega
    ⟨(hW.cell (p := ⟨w.heap.size, 0, none⟩) hl (by simp only; omega)).trans x0, (hW.cell (p := ⟨w.heap.size, 1, none⟩) hl (by simp only; omega)).trans x1, (hW.cell (p := ⟨w.heap.size, 2, none⟩) hl (by simp only; omega)).trans x2, (hW.cell (p := ⟨w.heap.size, 3, none⟩) hl (by simp only; omega)).trans x3, hW⟩)
  have hl0 : LaidAt W0 := (JL.out.below HBW1.out).below HB2.out
  have HN := Lib.hid (fun W (hW : Keeps (fun y => y = w.heap.size + 1 + 1) W0 W) => num_errV n W (hl0.keeps hW (by omega)))
  have hq : ((yv : Int) == yv) = true := by simp
  have hq2 : ((n : Int) == n) = true := by simp
  clear hl0 hb2
  go_upto_region 9 with fail
  go_region_held3 (fun w' => w'.cell? ⟨w.heap.size, 0, none⟩ = some (.int .i64 A.kind) ∧ w'.cell? ⟨w.heap.size, 1, none⟩ = some (.slice p A.gens.length cp) ∧ w'.cell? ⟨w.heap.size, 2, none⟩ = some (.slice q A.taken.length cq) ∧ w'.cell? ⟨w.heap.size, 3, none⟩ = some (.slice r A.list.length cr) ∧ Keeps (fun y => y = w.heap.size + 1 + 1) W0 w')
    (first | exact HY.out _ (Keeps.refl _ _) | exact HY.out _ (Keeps.refl _ _).drew | (go_split_ands; exact HY.out _ (Keeps.trans (by assumption) (Keeps.of_below hb))) | (go_split_ands; exact HY.out _ (keeps_four _ _ (by assumption) rfl)))
    (first | (go_at_call 10; refine (HN.out _ ?_).mono ?_; (go_split_ands; assumption); rintro e wn ⟨rfl, hb⟩; obtain ⟨_, _, _, _, _, r0, r1, r2, r3, rf⟩ := HX.out wn (bnext HB2.out (below_drewOne.trans hb))))
  go_split_ands
  go_wp2_with fail
  refine bodyPost_ret (v := .tuple #[rv A.kind (.slice p A.gens.length cp) (.slice q A.taken.length cq) (.slice r A.list.length cr), .bool true]) ?r1 rfl ?_
  case r1 => simp [results, Tryd.results13, go_sem, r0, r1, r2, r3]
  have hk : Keeps (fun _ => False) w W0 := Keeps.of_below (bnext HBW1.out HB2.out)
  refine ⟨_, _, _, rfl, ?_, ?_, ?_⟩
  · exact (JT.out.keeps hk (fun _ _ k => k)).keeps (by assumption) (fun y hy => by have := JSL.out y hy; omega)
  · exact (((JRT.out.mono (T := fun y => T y ∨ y = w.heap.size + 1 + 1) (fun y hy h => by rcases h with h | h; exact h; omega)).keeps2 hk (fun _ k => k.elim)).keeps2 (by assumption) (fun y hy => .inr hy)).mono (fun y _ hy => .inl hy)
  · exact step_keeps (H := w.heap.size + 1 + 1) (hk.mono (fun _ k => k.elim)) (by assumption) (by omega)
end Go.Proofs.YtmmbopaieffgeaaDoor
