/- The law's own step, a Drop; no condition but those that each row names. -/
import Derived.Test.YtmmbopaieffgeaaDoorSStep
namespace Go.Proofs.YtmmbopaieffgeaaDoor
open Go.RowKit

set_option maxHeartbeats 8000000 in
set_option maxRecDepth 100000 in
theorem step_drop (S T : Nat → Prop) (B : Nat) (A A' : Tab) (n h x : Int) (v gs ts ls : Value) (w : World) (hin : StepIn S T B w A v gs ts ls) (hkd : A'.kind = A.kind)
    (HP : ∀ W, PTab S B W A v → Calls Tryd.prog 16 #[v, .int .i64 h] W (ActPost S B W A' v (errV n)))
    (HR : ∀ (U : Nat → Prop) W, RT U W A gs ts ls → (∀ y, U y → y < W.heap.size) → Calls Tryd.prog 34 #[rv A.kind gs ts ls, .int .i64 h] W fun e w' => ∃ gs ts ls, e = .returned (.tuple #[rv A.kind gs ts ls, .int .i64 n]) ∧ RT U w' A' gs ts ls ∧ Below W.heap.size W w') :
    Calls Tryd.prog 13 #[v, rv A.kind gs ts ls, .agg #[.int .i64 3, .int .i64 h, .int .i64 x]] w (StepPost S T B w A' v) := by
  obtain ⟨hpt, hrt, hst, hlt, hb0, hlaid⟩ := hin
  have hS0 : ¬ S 0 := fun k => by have := (hpt.lt 0 k).1; omega
  have hSl : ∀ y, S y → y < w.heap.size := fun y k => hlt y (hst y k)
  have JP := Lib.hid HP
  have JR := Lib.hid HR
  have JT := Lib.hid hpt
  have JL := Lib.hid hlaid
  have JRT := Lib.hid hrt
  have JST := Lib.hid hst
  have JLT := Lib.hid hlt
  have JS0 := Lib.hid hS0
  have JSL := Lib.hid hSl
  have JK := Lib.hid hkd
  obtain ⟨b, _, _, _, _, _, _, rfl, _, hSx⟩ := hpt
  clear hSx
  obtain ⟨p, cp, q, cq, r, cr, rfl, rfl, rfl⟩ := hrt.shapes
  clear HP HR hlaid hrt hst hlt hS0 hSl hkd
  go_enter Tryd.func13, Tryd.ntmps13
  go_wp2_with fail
  have hb3 : ∀ o o' o'', Below w.heap.size w (((w.alloc o).alloc o').alloc o'') := fun o o' o'' => below_alloc (below_alloc (below_alloc (Below.refl _ _) o) o') o''
  refine (JP.out _ (JT.out.below (hb3 _ _ _))).mono ?_
  rintro e w1 ⟨rfl, hpt1, hk1⟩
  have hk0 : Keeps S w w1 := (Keeps.of_below (hb3 _ _ _)).trans hk1
  have hsz1 := hk1.size
  simp at hsz1
  have n0 : ¬ S w.heap.size := fun k => by have := JSL.out _ k; omega
  have n1 : ¬ S (w.heap.size + 1) := fun k => by have := JSL.out _ k; omega
  have n2 : ¬ S (w.heap.size + 1 + 1) := fun k => by have := JSL.out _ k; omega
  have hrt1 := (JRT.out.below (hb3 (.cells #[.int .i64 A.kind, .slice p A.gens.length cp, .slice q A.taken.length cq, .slice r A.list.length cr] 30) (.cells #[.int .i64 3, .int .i64 h, .int .i64 x] 42) (.cells #[.int .i64 0, .slice none 0 0, .slice none 0 0, .slice none 0 0] 30))).keeps2 hk1 JST.out
  have hrt2 : RT (fun y => T y ∨ y = w.heap.size + 1 + 1) w1 A (.slice p A.gens.length cp) (.slice q A.taken.length cq) (.slice r A.list.length cr) :=
    ((JRT.out.mono (T := fun y => T y ∨ y = w.heap.size + 1 + 1) (fun y hy h => by rcases h with h | h; exact h; omega)).below (hb3 _ _ _)).keeps2 hk1 (fun y k => .inl (JST.out y k))
  have HK0 := Lib.hid hk0
  have HPT1 := Lib.hid hpt1
  have HRT2 := Lib.hid hrt2
  obtain ⟨m0, m1, m2, m3⟩ := al3 w #[.int .i64 A.kind, .slice p A.gens.length cp, .slice q A.taken.length cq, .slice r A.list.length cr] #[.int .i64 3, .int .i64 h, .int .i64 x] #[.int .i64 0, .slice none 0 0, .slice none 0 0, .slice none 0 0] 30 42 30
  have j0 : ∀ j, w1.cell? ⟨w.heap.size, j, none⟩ = _ := fun j => (hk1.cell (p := ⟨w.heap.size, j, none⟩) (by simp; omega) n0).trans (m0 j)
  have j1 : ∀ j, w1.cell? ⟨w.heap.size + 1, j, none⟩ = _ := fun j => (hk1.cell (p := ⟨w.heap.size + 1, j, none⟩) (by simp) n1).trans (m1 j)
  have j2 : ∀ j, w1.cell? ⟨w.heap.size + 1 + 1, j, none⟩ = _ := fun j => (hk1.cell (p := ⟨w.heap.size + 1 + 1, j, none⟩) (by simp) n2).trans (m2 j)
  have j3 : ∀ j, w1.frozen? ⟨w.heap.size + 1 + 1, j, none⟩ = false := fun j => (World.frozen?_of_block (hk1.block (w.heap.size + 1 + 1) (by simp) n2)).trans (m3 j)
  have a0 := j0 0
  have a1 := j0 1
  have a2 := j0 2
  have a3 := j0 3
  have a4 := j1 1
  have a5 := j1 2
  have c0 := j2 0
  have c1 := j2 1
  have c2 := j2 2
  have c3 := j2 3
  simp only [List.getElem?_toArray, List.getElem?_cons_zero, List.getElem?_cons_succ] at a0 a1 a2 a3 a4 a5 c0 c1 c2 c3
  clear m0 m1 m2 m3 j0 j1 j2
  have HC := Lib.hid (⟨c0, c1, c2, c3, j3⟩ : w1.cell? ⟨w.heap.size + 1 + 1, 0, none⟩ = _ ∧ w1.cell? ⟨w.heap.size + 1 + 1, 1, none⟩ = _ ∧ w1.cell? ⟨w.heap.size + 1 + 1, 2, none⟩ = _ ∧ w1.cell? ⟨w.heap.size + 1 + 1, 3, none⟩ = _ ∧ (∀ j, w1.frozen? ⟨w.heap.size + 1 + 1, j, none⟩ = false))
  clear hpt1 hk1 hk0 hrt1 hrt2 c0 c1 c2 c3 j3
  go_upto_region 16 with fail
  go_cut [21, 22] (fun s10 s12 wx => ∃ gs ts ls, s10 = .pointer (some ⟨wx.heap.size - 1, 0, none⟩) ∧ s12 = .int .i64 n ∧ Has wx (wx.heap.size - 1) (.cells #[.int .i64 A.kind, gs, ts, ls] 30) ∧ w.heap.size + 1 + 1 < wx.heap.size - 1 ∧
    Hid (RT (fun y => T y ∨ y = w.heap.size + 1 + 1) wx A' gs ts ls) ∧ Hid (Below w1.heap.size w1 wx))
  case first =>
    go_wp2_with fail
    refine (JR.out _ _ HRT2.out (fun y hy => by rcases hy with hy | rfl; have := JLT.out y hy; omega; omega)).mono ?_
    rintro e w2 ⟨g', t', l', rfl, hrt3, hb2⟩
    have hs2 := hb2.size
    obtain ⟨pg, cg, qt, ct, rl, cl, rfl, rfl, rfl⟩ := hrt3.shapes
    have HRT3 := Lib.hid hrt3
    clear hrt3
    go_wp2_with fail
    go_meet
    have e : (w2.alloc (.cells #[.int .i64 A.kind, .slice pg A'.gens.length cg, .slice qt A'.taken.length ct, .slice rl A'.list.length cl] 30)).heap.size - 1 = w2.heap.size := by simp
    refine ⟨_, _, _, by rw [e], rfl, by rw [e]; exact has_new _ _ _ rfl, by rw [e]; omega, Lib.hid (HRT3.out.keeps2 (S := fun _ => False) ((Keeps.refl _ w2).alloc _) (fun _ k => k.elim)), Lib.hid (below_alloc hb2 _)⟩
  case rest =>
    obtain ⟨W0, rfl⟩ : ∃ W0 : World, W0 = wc := ⟨_, rfl⟩
    obtain ⟨g', t', l', rfl, rfl, hx, hbx, HRT3, HB⟩ := hcut
    obtain ⟨pg, cg, qt, ct, rl, cl, rfl, rfl, rfl⟩ := HRT3.out.shapes
    generalize hbk : W0.heap.size - 1 = bx at *
    have hbx2 : bx < W0.heap.size := has_lt hx
    clear hbk
    have x0 := has_cell hx 0
    have x1 := has_cell hx 1
    have x2 := has_cell hx 2
    have x3 := has_cell hx 3
    simp only [List.getElem?_toArray, List.getElem?_cons_zero, List.getElem?_cons_succ] at x0 x1 x2 x3
    have hsW := HB.out.size
    have HX := Lib.hid (show ∀ W, Keeps (fun y => y = w.heap.size + 1 + 1) W0 W → (W.cell? ⟨bx, 0, none⟩ = some (.int .i64 A.kind) ∧ W.cell? ⟨bx, 1, none⟩ = some (.slice pg A'.gens.length cg) ∧ W.cell? ⟨bx, 2, none⟩ = some (.slice qt A'.taken.length ct) ∧ W.cell? ⟨bx, 3, none⟩ = some (.slice rl A'.list.length cl) ∧ Keeps (fun y => y = w.heap.size + 1 + 1) W0 W) from fun W hW =>
      ⟨(hW.cell (p := ⟨bx, 0, none⟩) hbx2 (by simp only; omega)).trans x0, (hW.cell (p := ⟨bx, 1, none⟩) hbx2 (by simp only; omega)).trans x1, (hW.cell (p := ⟨bx, 2, none⟩) hbx2 (by simp only; omega)).trans x2, (hW.cell (p := ⟨bx, 3, none⟩) hbx2 (by simp only; omega)).trans x3, hW⟩)
    have HRR := Lib.hid (show ∀ W, Below W0.heap.size W0 W → (W.cell? ⟨w.heap.size + 1 + 1, 0, none⟩ = some (.int .i64 0) ∧ W.cell? ⟨w.heap.size + 1 + 1, 1, none⟩ = some (.slice none 0 0) ∧ W.cell? ⟨w.heap.size + 1 + 1, 2, none⟩ = some (.slice none 0 0) ∧ W.cell? ⟨w.heap.size + 1 + 1, 3, none⟩ = some (.slice none 0 0) ∧ (∀ j, W.frozen? ⟨w.heap.size + 1 + 1, j, none⟩ = false)) from fun W hW => by
      have h1 : Below w1.heap.size w1 W := bnext HB.out hW
      obtain ⟨c0, c1, c2, c3, cf⟩ := HC.out
      have hl : w.heap.size + 1 + 1 < w1.heap.size := by omega
      exact ⟨(h1.cell (p := ⟨w.heap.size + 1 + 1, 0, none⟩) hl).trans c0, (h1.cell (p := ⟨w.heap.size + 1 + 1, 1, none⟩) hl).trans c1, (h1.cell (p := ⟨w.heap.size + 1 + 1, 2, none⟩) hl).trans c2, (h1.cell (p := ⟨w.heap.size + 1 + 1, 3, none⟩) hl).trans c3, fun j => (h1.frozen (p := ⟨w.heap.size + 1 + 1, j, none⟩) hl).trans (cf j)⟩)
    have hl0 : LaidAt W0 := (JL.out.keeps HK0.out JS0.out).below HB.out
    have HN := Lib.hid (fun W (hW : Keeps (fun y => y = w.heap.size + 1 + 1) W0 W) => num_errV n W (hl0.keeps hW (by omega)))
    have hq2 : ((n : Int) == n) = true := by simp
    clear hx a0 a1 a2 a3 a4 a5 hl0
    go_wp2_with fail
    go_region_held3 (fun w' => w'.cell? ⟨bx, 0, none⟩ = some (.int .i64 A.kind) ∧ w'.cell? ⟨bx, 1, none⟩ = some (.slice pg A'.gens.length cg) ∧ w'.cell? ⟨bx, 2, none⟩ = some (.slice qt A'.taken.length ct) ∧ w'.cell? ⟨bx, 3, none⟩ = some (.slice rl A'.list.length cl) ∧ Keeps (fun y => y = w.heap.size + 1 + 1) W0 w')
      (first | exact HX.out _ (Keeps.refl _ _) | exact HX.out _ (Keeps.refl _ _).drew | (go_split_ands; exact HX.out _ (Keeps.trans (by assumption) (Keeps.of_below hb))) | (go_split_ands; exact HX.out _ (keeps_four _ _ (by assumption) rfl)))
      (first | (go_at_call 10; refine (HN.out _ ?_).mono ?_; (go_split_ands; assumption); rintro e wn ⟨rfl, hb⟩; obtain ⟨r0, r1, r2, r3, rf⟩ := HRR.out wn (below_drewOne.trans hb)))
    go_split_ands
    go_wp2_with fail
    refine bodyPost_ret (v := .tuple #[rv A.kind (.slice pg A'.gens.length cg) (.slice qt A'.taken.length ct) (.slice rl A'.list.length cl), .bool true]) ?r1 rfl ?_
    case r1 => simp [results, Tryd.results13, go_sem, r0, r1, r2, r3]
    refine ⟨_, _, _, by rw [JK.out], ?_, ?_, ?_⟩
    · exact (HPT1.out.below HB.out).keeps (by assumption) (fun y hy => by have := JSL.out y hy; omega)
    · exact (HRT3.out.keeps2 (by assumption) (fun y hy => .inr hy)).mono (fun y _ hy => .inl hy)
    · exact step_keeps (H := w.heap.size + 1 + 1) (HK0.out.trans (Keeps.of_below HB.out)) (by assumption) (by omega)
end Go.Proofs.YtmmbopaieffgeaaDoor
