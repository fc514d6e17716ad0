/- The walk of the law SlotsPlays: it answers true whatever is done, in every order; it writes nothing that was there. -/
import Derived.Test.YtmmbopaieffgeaaDoorSLawNews
namespace Go.Proofs.YtmmbopaieffgeaaDoor
open Go.RowKit

/-- A slice of acts that reads as a list. -/
def OpsAt (w : World) (v : Value) (l : List (Int × Int × Int)) : Prop :=
  ∃ p cap, v = .slice p l.length cap ∧ l.length ≤ 9223372036854775807 ∧ ∀ j k h x, l[j]? = some (k, h, x) → ∃ b off, p = some ⟨b, off, none⟩ ∧ w.cell? ⟨b, off + j * 3, none⟩ = some (.int .i64 k) ∧ w.cell? ⟨b, off + j * 3 + 1, none⟩ = some (.int .i64 h) ∧ w.cell? ⟨b, off + j * 3 + 2, none⟩ = some (.int .i64 x)

theorem OpsAt.below {w w' : World} {v : Value} {l : List (Int × Int × Int)} (h : OpsAt w v l) (hb : Below w.heap.size w w') : OpsAt w' v l := by
  obtain ⟨p, cap, e, hl, hc⟩ := h
  refine ⟨p, cap, e, hl, fun j k h x hj => ?_⟩
  obtain ⟨b, off, e2, c0, c1, c2⟩ := hc j k h x hj
  have hb0 := cell_lt c0
  exact ⟨b, off, e2, (hb.cell (p := ⟨b, off + j * 3, none⟩) hb0).trans c0, (hb.cell (p := ⟨b, off + j * 3 + 1, none⟩) hb0).trans c1, (hb.cell (p := ⟨b, off + j * 3 + 2, none⟩) hb0).trans c2⟩
theorem keeps_new {S : Nat → Prop} {w w' : World} (h : Keeps S w w') (p : Addr) (u : Value) (hp : w.heap.size ≤ p.block) : Keeps S w (w'.setCell p u) :=
  ⟨h.os, h.tape, h.output, by simpa [World.setCell] using h.size, fun b hb hn => (Below.heap_setCell w' p u b (by omega)).trans (h.block b hb hn)⟩

theorem set4 {W : World} {R : Nat} {e0 e1 e2 e3 : Value} (u0 u1 u2 u3 : Value) (d0 : W.cell? ⟨R, 0, none⟩ = some e0) (d1 : W.cell? ⟨R, 1, none⟩ = some e1) (d2 : W.cell? ⟨R, 2, none⟩ = some e2) (d3 : W.cell? ⟨R, 3, none⟩ = some e3) :
    ((((W.setCell ⟨R, 0, none⟩ u0).setCell ⟨R, 1, none⟩ u1).setCell ⟨R, 2, none⟩ u2).setCell ⟨R, 3, none⟩ u3).cell? ⟨R, 0, none⟩ = some u0 ∧ ((((W.setCell ⟨R, 0, none⟩ u0).setCell ⟨R, 1, none⟩ u1).setCell ⟨R, 2, none⟩ u2).setCell ⟨R, 3, none⟩ u3).cell? ⟨R, 1, none⟩ = some u1 ∧
      ((((W.setCell ⟨R, 0, none⟩ u0).setCell ⟨R, 1, none⟩ u1).setCell ⟨R, 2, none⟩ u2).setCell ⟨R, 3, none⟩ u3).cell? ⟨R, 2, none⟩ = some u2 ∧ ((((W.setCell ⟨R, 0, none⟩ u0).setCell ⟨R, 1, none⟩ u1).setCell ⟨R, 2, none⟩ u2).setCell ⟨R, 3, none⟩ u3).cell? ⟨R, 3, none⟩ = some u3 := by
  have ho4 : ∀ (W : World) (i j : Nat) (u : Value), i ≠ j → (W.setCell ⟨R, i, none⟩ u).cell? ⟨R, j, none⟩ = W.cell? ⟨R, j, none⟩ := fun W i j u e => World.cell?_setCell_other W _ _ _ (by first | (simp; done) | (simp; exact e))
  refine ⟨?_, ?_, ?_, ?_⟩
  · rw [ho4 _ _ _ _ (by omega), ho4 _ _ _ _ (by omega), ho4 _ _ _ _ (by omega)]; exact World.cell?_setCell_same W _ _ d0
  · rw [ho4 _ _ _ _ (by omega), ho4 _ _ _ _ (by omega)]; exact World.cell?_setCell_same _ _ _ ((ho4 _ _ _ _ (by omega)).trans d1)
  · rw [ho4 _ _ _ _ (by omega)]; exact World.cell?_setCell_same _ _ _ ((ho4 _ _ _ _ (by omega)).trans ((ho4 _ _ _ _ (by omega)).trans d2))
  · exact World.cell?_setCell_same _ _ _ ((ho4 _ _ _ _ (by omega)).trans ((ho4 _ _ _ _ (by omega)).trans ((ho4 _ _ _ _ (by omega)).trans d3)))
theorem keeps_new4 {S : Nat → Prop} {w W : World} (h : Keeps S w W) (R : Nat) (hR : w.heap.size ≤ R) (u0 u1 u2 u3 : Value) : Keeps S w ((((W.setCell ⟨R, 0, none⟩ u0).setCell ⟨R, 1, none⟩ u1).setCell ⟨R, 2, none⟩ u2).setCell ⟨R, 3, none⟩ u3) :=
  keeps_new (keeps_new (keeps_new (keeps_new h _ u0 hR) _ u1 hR) _ u2 hR) _ u3 hR
theorem keeps_from {S : Nat → Prop} {W : World} (R : Nat) (u0 u1 u2 u3 : Value) (hR : S R) : Keeps S W ((((W.setCell ⟨R, 0, none⟩ u0).setCell ⟨R, 1, none⟩ u1).setCell ⟨R, 2, none⟩ u2).setCell ⟨R, 3, none⟩ u3) :=
  ((((Keeps.refl S W).setCell _ _ hR).setCell _ _ hR).setCell _ _ hR).setCell _ _ hR

/-- Behind a step, its answer laid at a block of its own. -/
def StepCut (S : Nat → Prop) (B R : Nat) (w : World) (A : Tab) (v s12 s13 : Value) (wx : World) : Prop :=
  ∃ (A' : Tab) (p : Option Addr) (cp : Nat) (q : Option Addr) (cq : Nat) (r : Option Addr) (cr bx : Nat), s12 = .pointer (some ⟨bx, 0, none⟩) ∧ s13 = .bool true ∧ StepOk A A' ∧ PTab S B wx A' v ∧ RT (fun y => S y ∨ y = R) wx A' (.slice p A'.gens.length cp) (.slice q A'.taken.length cq) (.slice r A'.list.length cr) ∧ Keeps S w wx ∧
    wx.cell? ⟨bx, 0, none⟩ = some (.int .i64 A'.kind) ∧ wx.cell? ⟨bx, 1, none⟩ = some (.slice p A'.gens.length cp) ∧ wx.cell? ⟨bx, 2, none⟩ = some (.slice q A'.taken.length cq) ∧ wx.cell? ⟨bx, 3, none⟩ = some (.slice r A'.list.length cr) ∧ w.heap.size ≤ bx
theorem stepCut_1 {S : Nat → Prop} {B R : Nat} {w W : World} {A A' : Tab} {v : Value} {p q r : Option Addr} {cp cq cr : Nat} (ho : StepOk A A') (hp : PTab S B W A' v) (hr : RT (fun y => S y ∨ y = R) W A' (.slice p A'.gens.length cp) (.slice q A'.taken.length cq) (.slice r A'.list.length cr)) (hk : Keeps S w.drew W) :
    StepCut S B R w A v (.pointer (some ⟨W.heap.size, 0, none⟩)) (.bool true) (W.alloc (.cells #[.int .i64 A'.kind, .slice p A'.gens.length cp, .slice q A'.taken.length cq, .slice r A'.list.length cr] 30)) := by
  obtain ⟨x0, x1, x2, x3⟩ := rv_cells W A'.kind (.slice p A'.gens.length cp) (.slice q A'.taken.length cq) (.slice r A'.list.length cr) 30 _ (Below.refl _ _)
  have ka : Keeps (fun _ => False) W (W.alloc (.cells #[.int .i64 A'.kind, .slice p A'.gens.length cp, .slice q A'.taken.length cq, .slice r A'.list.length cr] 30)) := (Keeps.refl _ W).alloc _
  have hk' := Keeps.trans ((Keeps.refl S w).drew) hk
  exact ⟨A', p, cp, q, cq, r, cr, _, rfl, rfl, ho, hp.keeps ka (fun _ _ k => k), hr.keeps2 ka (fun _ k => k.elim), hk'.alloc _, x0, x1, x2, x3, hk'.size⟩
theorem stepCut_2 {S : Nat → Prop} {B R : Nat} {w W : World} {A A' : Tab} {v : Value} {p q r : Option Addr} {cp cq cr : Nat} (hS : ∀ y, S y → y < w.heap.size) (ho : StepOk A A') (hp : PTab S B W A' v) (hr : RT (fun y => (S y ∨ y = R) ∨ y = w.heap.size) W A' (.slice p A'.gens.length cp) (.slice q A'.taken.length cq) (.slice r A'.list.length cr))
    {o : Obj} (hk : Keeps S (w.drew.alloc o) W) {e0 e1 e2 e3 : Value}
    (d0 : W.cell? ⟨w.heap.size, 0, none⟩ = some e0) (d1 : W.cell? ⟨w.heap.size, 1, none⟩ = some e1) (d2 : W.cell? ⟨w.heap.size, 2, none⟩ = some e2) (d3 : W.cell? ⟨w.heap.size, 3, none⟩ = some e3) :
    StepCut S B R w A v (.pointer (some ⟨w.heap.size, 0, none⟩)) (.bool true) ((((W.setCell ⟨w.heap.size, 0, none⟩ (.int .i64 A'.kind)).setCell ⟨w.heap.size, 1, none⟩ (.slice p A'.gens.length cp)).setCell ⟨w.heap.size, 2, none⟩ (.slice q A'.taken.length cq)).setCell ⟨w.heap.size, 3, none⟩ (.slice r A'.list.length cr)) := by
  obtain ⟨x0, x1, x2, x3⟩ := set4 (.int .i64 A'.kind) (.slice p A'.gens.length cp) (.slice q A'.taken.length cq) (.slice r A'.list.length cr) d0 d1 d2 d3
  have ka : Keeps (fun y => y = w.heap.size) W ((((W.setCell ⟨w.heap.size, 0, none⟩ (.int .i64 A'.kind)).setCell ⟨w.heap.size, 1, none⟩ (.slice p A'.gens.length cp)).setCell ⟨w.heap.size, 2, none⟩ (.slice q A'.taken.length cq)).setCell ⟨w.heap.size, 3, none⟩ (.slice r A'.list.length cr)) := keeps_from (S := fun y => y = w.heap.size) w.heap.size _ _ _ _ rfl
  have hk' := Keeps.trans (((Keeps.refl S w).drew).alloc o) hk
  exact ⟨A', p, cp, q, cq, r, cr, _, rfl, rfl, ho, hp.keeps ka (fun y hy e => by have := hS y hy; omega), (hr.keeps2 ka (fun y e => .inr e)).mono (fun y _ h => .inl h), keeps_new4 hk' _ (Nat.le_refl _) _ _ _ _, x0, x1, x2, x3, Nat.le_refl _⟩
theorem stepCut_drew {S : Nat → Prop} {B R : Nat} {w W : World} {A : Tab} {v s12 s13 : Value} (h : StepCut S B R w A v s12 s13 W) : StepCut S B R w A v s12 s13 W.drew := by
  obtain ⟨A', p, cp, q, cq, r, cr, bx, e1, e2, ho, hp, hr, hk, x0, x1, x2, x3, hl⟩ := h
  exact ⟨A', p, cp, q, cq, r, cr, bx, e1, e2, ho, hp.keeps (T := fun _ => False) ((Keeps.refl _ _).drew) (fun _ _ k => k), hr.keeps2 (S := fun _ => False) ((Keeps.refl _ _).drew) (fun _ k => k.elim), hk.drew, x0, x1, x2, x3, hl⟩

/-- The two tables while a law plays: the document's lies by value at block R. -/
structure Play (S : Nat → Prop) (B R : Nat) (W0 w : World) (A0 A : Tab) (v gs ts ls : Value) : Prop where
  ok : StepOk A0 A
  pt : PTab S B w A v
  rt : RT (fun y => S y ∨ y = R) w A gs ts ls
  x0 : w.cell? ⟨R, 0, none⟩ = some (.int .i64 A.kind)
  x1 : w.cell? ⟨R, 1, none⟩ = some gs
  x2 : w.cell? ⟨R, 2, none⟩ = some ts
  x3 : w.cell? ⟨R, 3, none⟩ = some ls
  fr : ∀ j, w.frozen? ⟨R, j, none⟩ = false
  kp : Keeps (fun y => S y ∨ y = R) W0 w
  nr : ¬ S R
  lt : R < w.heap.size
  bd : ∀ y, S y → B ≤ y ∧ y < W0.heap.size
theorem Play.kd {S : Nat → Prop} {B R : Nat} {W0 w : World} {A0 A : Tab} {v gs ts ls : Value} (h : Play S B R W0 w A0 A v gs ts ls) : A.kind = A0.kind := h.ok.kind
theorem Play.stepIn {S : Nat → Prop} {B R : Nat} {W0 w : World} {A0 A : Tab} {v gs ts ls : Value} (h : Play S B R W0 w A0 A v gs ts ls) (W : World) (hb : Keeps (fun _ => False) w W) (hB : 0 < B) (hR : 0 < R) (hl : LaidAt W0) : StepIn S (fun y => S y ∨ y = R) B W A v gs ts ls :=
  ⟨h.pt.keeps hb (fun _ _ k => k), h.rt.keeps2 hb (fun _ k => k.elim), fun _ k => .inl k, fun y hy => by
    have := hb.size
    have hl := h.lt
    rcases hy with hy | rfl
    · have := (h.pt.lt y hy).2; omega
    · omega, hB, (hl.keeps h.kp (fun k => by rcases k with k | k; have := (h.bd 0 k).1; omega; omega)).keeps hb (fun k => k)⟩
theorem RT.fresh {T : Nat → Prop} {w : World} {A : Tab} {gs ts ls : Value} (h : RT T w A gs ts ls) : RT (fun y => T y ∨ y = w.heap.size) w A gs ts ls := h.mono (fun y hy k => by rcases k with k | k; exact k; omega)
theorem StepIn.more {S T : Nat → Prop} {B : Nat} {w W : World} {A : Tab} {v gs ts ls : Value} (h : StepIn S T B W A v gs ts ls) (R : Nat) (hl : R < W.heap.size) (hr : RT (fun y => T y ∨ y = R) w A gs ts ls) (hk : Keeps (fun _ => False) w W) : StepIn S (fun y => T y ∨ y = R) B W A v gs ts ls :=
  ⟨h.pt, hr.keeps2 hk (fun _ k => k.elim), fun y k => .inl (h.st y k), fun y hy => by rcases hy with hy | rfl; exact h.lt y hy; exact hl, h.b0, h.laid⟩
theorem fresh4 {S : Nat → Prop} {w W : World} {T : TypeId} (a b c d : Value) (hk : Keeps S (w.drew.alloc (.cells #[a, b, c, d] T)) W) (hS : ¬ S w.heap.size) :
    W.cell? ⟨w.heap.size, 0, none⟩ = some a ∧ W.cell? ⟨w.heap.size, 1, none⟩ = some b ∧ W.cell? ⟨w.heap.size, 2, none⟩ = some c ∧ W.cell? ⟨w.heap.size, 3, none⟩ = some d ∧ (∀ j, W.frozen? ⟨w.heap.size, j, none⟩ = false) := by
  have hn := has_new w.drew (.cells #[a, b, c, d] T) _ rfl
  have hc : ∀ j, W.cell? ⟨w.heap.size, j, none⟩ = (#[a, b, c, d] : Array Value)[j]? := fun j => (hk.cell (p := ⟨w.heap.size, j, none⟩) (by simp) hS).trans (has_cell hn j)
  exact ⟨hc 0, hc 1, hc 2, hc 3, fun j => (World.frozen?_of_block (hk.block w.heap.size (by simp) hS)).trans (has_free hn j)⟩
/-- Behind a step, its answer laid at R. -/
theorem Play.next {S : Nat → Prop} {B R : Nat} {W0 w W : World} {A0 A A' : Tab} {v gs ts ls gs' ts' ls' : Value} (h : Play S B R W0 w A0 A v gs ts ls) (ho : StepOk A A') (hp : PTab S B W A' v) (hr : RT (fun y => S y ∨ y = R) W A' gs' ts' ls') (hk : Keeps S w W) (u : World)
    (hu : u = (((W.setCell ⟨R, 0, none⟩ (.int .i64 A'.kind)).setCell ⟨R, 1, none⟩ gs').setCell ⟨R, 2, none⟩ ts').setCell ⟨R, 3, none⟩ ls') : Play S B R W0 u A0 A' v gs' ts' ls' := by
  subst hu
  have hc : ∀ j, W.cell? ⟨R, j, none⟩ = w.cell? ⟨R, j, none⟩ := fun j => hk.cell (p := ⟨R, j, none⟩) h.lt h.nr
  have d0 := (hc 0).trans h.x0
  have d1 := (hc 1).trans h.x1
  have d2 := (hc 2).trans h.x2
  have d3 := (hc 3).trans h.x3
  have k4 : Keeps (fun y => y = R) W ((((W.setCell ⟨R, 0, none⟩ (.int .i64 A'.kind)).setCell ⟨R, 1, none⟩ gs').setCell ⟨R, 2, none⟩ ts').setCell ⟨R, 3, none⟩ ls') := keeps_four R _ (Keeps.refl _ _) rfl
  obtain ⟨x0, x1, x2, x3⟩ := set4 (.int .i64 A'.kind) gs' ts' ls' d0 d1 d2 d3
  have hsz : ((((W.setCell ⟨R, 0, none⟩ (.int .i64 A'.kind)).setCell ⟨R, 1, none⟩ gs').setCell ⟨R, 2, none⟩ ts').setCell ⟨R, 3, none⟩ ls').heap.size = W.heap.size := by simp [World.setCell]
  refine ⟨h.ok.trans ho, hp.keeps k4 (fun y hy e => h.nr (e ▸ hy)), hr.keeps2 k4 (fun y e => .inr e), ?_, ?_, ?_, ?_, fun j => ?_, (h.kp.trans (hk.mono fun y k => .inl k)).trans (k4.mono fun y k => .inr k), h.nr, by rw [hsz]; exact Nat.lt_of_lt_of_le h.lt hk.size, h.bd⟩
  · exact x0
  · exact x1
  · exact x2
  · exact x3
  · rw [World.frozen?_setCell, World.frozen?_setCell, World.frozen?_setCell, World.frozen?_setCell]
    exact (World.frozen?_of_block (hk.block R h.lt h.nr)).trans (h.fr j)
theorem Play.start {S : Nat → Prop} {B : Nat} {w : World} {A : Tab} {v gs ts ls : Value} (hA : A.Good) (hp : PTab S B w A v) (hr : RT S w A gs ts ls) :
    Play S B w.heap.size (w.alloc (.cells #[.int .i64 A.kind, gs, ts, ls] 30)) (w.alloc (.cells #[.int .i64 A.kind, gs, ts, ls] 30)) A A v gs ts ls := by
  obtain ⟨x0, x1, x2, x3⟩ := rv_cells w A.kind gs ts ls 30 _ (Below.refl _ _)
  have ka : Keeps (fun _ => False) w (w.alloc (.cells #[.int .i64 A.kind, gs, ts, ls] 30)) := (Keeps.refl _ w).alloc _
  exact ⟨StepOk.refl hA, hp.keeps ka (fun _ _ k => k), (hr.mono (T := fun y => S y ∨ y = w.heap.size) (fun y hy h => by rcases h with h | h; exact h; omega)).keeps2 ka (fun _ k => k.elim), x0, x1, x2, x3, fun j => has_free (has_new w _ _ rfl) j, Keeps.refl _ _, fun k => by have := (hp.lt _ k).2; omega, by simp, fun y hy => by have := hp.lt y hy; simp; omega⟩

set_option maxHeartbeats 4000000 in
set_option maxRecDepth 100000 in
theorem plays_ok (kind : Int) (n : Nat) (v : Value) (l : List (Int × Int × Int)) (w : World) (hg : LaidAt w) (hv : OpsAt w v l) (k1 : 1 ≤ kind) (k3 : kind ≤ 3) (n1 : 1 ≤ n) (n4 : n ≤ 4096) :
    Calls Tryd.prog 4 #[.int .i64 kind, .int .i64 n, v] w fun e w' => e = .returned (.bool true) ∧ Below w.heap.size w w' := by
  have HP := Lib.hid (fun w => pnew_ok kind n w k1 k3 n1 n4)
  have HR := Lib.hid (fun S w hS => rnew_ok S kind n w hS k1 k3 n1 n4)
  have HA := Lib.hid (new_good k1 k3 n1 n4)
  have HG := Lib.hid hg
  obtain ⟨pl, cpl, rfl, hm, hops⟩ := hv
  have HO := Lib.hid hops
  clear hg hops
  go_enter Tryd.func4, Tryd.ntmps4
  go_wp2_with fail
  refine (HP.out _).mono ?_
  rintro e w1 ⟨S, v, rfl, hpt, hb1⟩
  have HL := Lib.hid hpt.lt
  have HPT := Lib.hid hpt
  have HB1 := Lib.hid hb1
  obtain ⟨b, _, _, _, _, _, _, rfl, _, hSx⟩ := hpt
  clear hSx hb1
  go_wp2_with fail
  refine (HR.out S _ (fun y hy => (HL.out y hy).2)).mono ?_
  rintro e w2 ⟨gs, ts, ls, rfl, hrt, hb2⟩
  obtain ⟨pg, cg, qt, ct, rl, cl, rfl, rfl, rfl⟩ := hrt.shapes
  have hX := rv_cells w2 (Tab.new kind n).kind (.slice pg (Tab.new kind n).gens.length cg) (.slice qt (Tab.new kind n).taken.length ct) (.slice rl (Tab.new kind n).list.length cl) 30
  have HX := Lib.hid hX
  have HRT := Lib.hid hrt
  have HB2 := Lib.hid hb2
  clear hX hrt hb2
  have HPL := Lib.hid (Play.start HA.out (HPT.out.below HB2.out) HRT.out)
  have HW0 := Lib.hid (below_alloc (bnext HB1.out HB2.out) (.cells #[.int .i64 (Tab.new kind n).kind, .slice pg (Tab.new kind n).gens.length cg, .slice qt (Tab.new kind n).taken.length ct, .slice rl (Tab.new kind n).list.length cl] 30))
  have hR := HB2.out.size
  have hR1 := HB1.out.size
  have hg0 := HG.out.pos
  have HLW := Lib.hid (HG.out.below HW0.out)
  have hSw : ∀ y, S y → w.heap.size ≤ y := fun y hy => (HL.out y hy).1
  have HSW := Lib.hid hSw
  clear hSw HX HPT HRT HL
  go_upto_region 6 with fail
  generalize w2.alloc (.cells #[.int .i64 (Tab.new kind n).kind, .slice pg (Tab.new kind n).gens.length cg, .slice qt (Tab.new kind n).taken.length ct, .slice rl (Tab.new kind n).list.length cl] 30) = W0 at *
  clear HB1 HB2
  generalize hR2 : w2.heap.size = R at *
  clear hR2
  go_loopw [11, 12, 13] (fun i _ _ wr => ∃ (A : Tab) (k : Nat) (gs ts ls : Value), k ≤ l.length ∧ i = .int .i64 k ∧ Hid (Play S w.heap.size R W0 wr (Tab.new kind n) A (.pointer (some ⟨b, 0, none⟩)) gs ts ls)) (fun i _ _ _ => l.length - (intOf i).toNat)
  case atStart => exact ⟨_, 0, _, _, _, Nat.zero_le _, rfl, HPL⟩
  case round =>
    obtain ⟨A, k, gs, ts, ls, hk, rfl, HK⟩ := hrel
    by_cases hlt : k < l.length ∧ k < 400
    · obtain ⟨hlt, h400⟩ := hlt
      obtain ⟨⟨ka, hb, xc⟩, hel⟩ : ∃ q, l[k]? = some q := ⟨_, List.getElem?_eq_getElem hlt⟩
      obtain ⟨b1, o1, rfl, hd0, hd1, hd2⟩ := HO.out k ka hb xc hel
      have hbl := cell_lt hd0
      simp only at hbl
      have hnS : ¬ (S b1 ∨ b1 = R) := fun c => by rcases c with c | c; have := HSW.out b1 c; omega; omega
      have hcl : ∀ o, wr.cell? ⟨b1, o, none⟩ = w.cell? ⟨b1, o, none⟩ := fun o => (HK.out.kp.cell (p := ⟨b1, o, none⟩) (Nat.lt_of_lt_of_le hbl HW0.out.size) hnS).trans (HW0.out.cell (p := ⟨b1, o, none⟩) hbl)
      have c0 := (hcl _).trans hd0
      have c1 := (hcl _).trans hd1
      have c2 := (hcl _).trans hd2
      have x0 := HK.out.x0
      have x1 := HK.out.x1
      have x2 := HK.out.x2
      have x3 := HK.out.x3
      obtain ⟨pg', cg', qt', ct', rl', cl', rfl, rfl, rfl⟩ := HK.out.rt.shapes
      have hRl := HK.out.lt
      have hb1l : b1 < wr.heap.size := by have := HK.out.kp.size; have := HW0.out.size; omega
      have hnr := HK.out.nr
      have hnb : ¬ S b1 := fun c => hnS (.inl c)
      have HX := Lib.hid (show ∀ W, Keeps S wr W → (W.cell? ⟨R, 0, none⟩ = some (.int .i64 A.kind) ∧ W.cell? ⟨R, 1, none⟩ = some (.slice pg' A.gens.length cg') ∧ W.cell? ⟨R, 2, none⟩ = some (.slice qt' A.taken.length ct') ∧ W.cell? ⟨R, 3, none⟩ = some (.slice rl' A.list.length cl') ∧
          W.cell? ⟨b1, o1 + k * 3, none⟩ = some (.int .i64 ka) ∧ W.cell? ⟨b1, o1 + k * 3 + 1, none⟩ = some (.int .i64 hb) ∧ W.cell? ⟨b1, o1 + k * 3 + 2, none⟩ = some (.int .i64 xc) ∧ Keeps S wr W) from fun W hW =>
        ⟨(hW.cell (p := ⟨R, 0, none⟩) hRl hnr).trans x0, (hW.cell (p := ⟨R, 1, none⟩) hRl hnr).trans x1, (hW.cell (p := ⟨R, 2, none⟩) hRl hnr).trans x2, (hW.cell (p := ⟨R, 3, none⟩) hRl hnr).trans x3,
          (hW.cell (p := ⟨b1, o1 + k * 3, none⟩) hb1l hnb).trans c0, (hW.cell (p := ⟨b1, o1 + k * 3 + 1, none⟩) hb1l hnb).trans c1, (hW.cell (p := ⟨b1, o1 + k * 3 + 2, none⟩) hb1l hnb).trans c2, hW⟩)
      have HST := Lib.hid (fun W (hW : Keeps (fun _ => False) wr W) => step_any S (fun y => S y ∨ y = R) w.heap.size A HK.out.ok.good ka hb xc _ _ _ _ W (HK.out.stepIn W hW (by omega) (by omega) HLW.out))
      have z0 : (0 : Int) ≤ (k : Int) := by omega
      have z1 : (k : Int) < (l.length : Int) := by omega
      have z2 : (k : Int) < 400 := by omega
      clear hd0 hd1 hd2 hcl c0 c1 c2 x0 x1 x2 x3 hel
      have hSl : ∀ y, S y → y < wr.heap.size := fun y hy => (HK.out.pt.lt y hy).2
      have HSL := Lib.hid hSl
      have HST2 := Lib.hid (fun W (hW : Keeps (fun _ => False) wr W) (hl : wr.heap.size < W.heap.size) => step_any S (fun y => (S y ∨ y = R) ∨ y = wr.heap.size) w.heap.size A HK.out.ok.good ka hb xc _ _ _ _ W ((HK.out.stepIn W hW (by omega) (by omega) HLW.out).more wr.heap.size hl (HK.out.rt.fresh) hW))
      have HZ := Lib.hid (fun o => (fun W (hk : Keeps S (wr.drew.alloc (.cells #[.int .i64 0, .slice none 0 0, .slice none 0 0, .slice none 0 0] o)) W) => fresh4 (S := S) (T := o) (.int .i64 0) (.slice none 0 0) (.slice none 0 0) (.slice none 0 0) hk (fun c => by have := hSl _ c; omega)))
      clear hSl
      go_upto_region 8 with fail
      go_cut [12, 13] (fun s12 s13 wx => StepCut S w.heap.size R wr A (.pointer (some ⟨b, 0, none⟩)) s12 s13 wx)
      case first =>
        go_region_held3 (fun w' => w'.cell? ⟨R, 0, none⟩ = some (.int .i64 A.kind) ∧ w'.cell? ⟨R, 1, none⟩ = some (.slice pg' A.gens.length cg') ∧ w'.cell? ⟨R, 2, none⟩ = some (.slice qt' A.taken.length ct') ∧ w'.cell? ⟨R, 3, none⟩ = some (.slice rl' A.list.length cl') ∧
            w'.cell? ⟨b1, o1 + k * 3, none⟩ = some (.int .i64 ka) ∧ w'.cell? ⟨b1, o1 + k * 3 + 1, none⟩ = some (.int .i64 hb) ∧ w'.cell? ⟨b1, o1 + k * 3 + 2, none⟩ = some (.int .i64 xc) ∧ Keeps S wr w')
          (first | exact HX.out _ (Keeps.refl _ _) | exact HX.out _ (Keeps.refl _ _).drew | exact HX.out _ ((Keeps.refl _ _).drew.alloc _) | exact HX.out _ ((Keeps.refl _ _).alloc _) | (go_split_ands; exact HX.out _ (Keeps.trans (by assumption) hk3)) | exact HX.out _ ((Keeps.trans ((Keeps.refl S wr).drew) hk3).alloc _) | exact HX.out _ (keeps_new4 (Keeps.trans ((Keeps.refl S wr).drew.alloc _) hk3) _ (Nat.le_refl _) _ _ _ _))
          (first
            | (go_at_call 13; refine (HST2.out _ ((Keeps.refl _ _).drew.alloc _) (by simp)).mono ?_; rintro e w3 ⟨A', hok3, gs3, ts3, ls3, rfl, hpt3, hrt3, hk3⟩; obtain ⟨pg3, cg3, qt3, ct3, rl3, cl3, rfl, rfl, rfl⟩ := hrt3.shapes; have HPT3 := Lib.hid hpt3; have HRT3 := Lib.hid hrt3; have HOK3 := Lib.hid hok3; clear hpt3 hrt3 hok3; obtain ⟨y0, y1, y2, y3, yf⟩ := HZ.out _ _ hk3)
            | (go_at_call 13; refine (HST.out _ ((Keeps.refl _ _).drew)).mono ?_; rintro e w3 ⟨A', hok3, gs3, ts3, ls3, rfl, hpt3, hrt3, hk3⟩; obtain ⟨pg3, cg3, qt3, ct3, rl3, cl3, rfl, rfl, rfl⟩ := hrt3.shapes; have HPT3 := Lib.hid hpt3; have HRT3 := Lib.hid hrt3; have HOK3 := Lib.hid hok3; clear hpt3 hrt3 hok3))
        all_goals
          go_wp2_with fail
          go_meet
        · exact stepCut_1 HOK3.out HPT3.out HRT3.out hk3
        · exact stepCut_2 HSL.out HOK3.out HPT3.out HRT3.out hk3 y0 y1 y2 y3
      case rest =>
        obtain ⟨W5, rfl⟩ : ∃ W5 : World, W5 = wc := ⟨_, rfl⟩
        obtain ⟨A', p5, cp5, q5, cq5, r5, cr5, bx, rfl, rfl, hok5, hpt5, hrt5, hk5, y0, y1, y2, y3, hbx⟩ := hcut
        have hc : ∀ j, W5.cell? ⟨R, j, none⟩ = wr.cell? ⟨R, j, none⟩ := fun j => hk5.cell (p := ⟨R, j, none⟩) hRl hnr
        have d0 := (hc 0).trans HK.out.x0
        have d1 := (hc 1).trans HK.out.x1
        have d2 := (hc 2).trans HK.out.x2
        have d3 := (hc 3).trans HK.out.x3
        have df : ∀ j, W5.frozen? ⟨R, j, none⟩ = false := fun j => (World.frozen?_of_block (hk5.block R hRl hnr)).trans (HK.out.fr j)
        have HN := Lib.hid (fun u hu => HK.out.next hok5 hpt5 hrt5 hk5 u hu)
        clear hok5 hpt5 hrt5 hk5 hc HX HST HST2 HZ
        go_wp2_with fail
        go_roundw
        case rel => exact ⟨A', k + 1, _, _, _, by omega, by go_num, Lib.hid (HN.out _ rfl)⟩
        case measure => simp [intOf]; omega
    · obtain ⟨x0, x1, x2, x3⟩ := (⟨HK.out.x0, HK.out.x1, HK.out.x2, HK.out.x3⟩ : _ ∧ _ ∧ _ ∧ _)
      obtain ⟨pg', cg', qt', ct', rl', cl', rfl, rfl, rfl⟩ := HK.out.rt.shapes
      have HSM := Lib.hid (same_slots (fun y => S y ∨ y = R) S w.heap.size A HK.out.ok.good _ _ _ _ wr HK.out.pt HK.out.rt (fun y hy => by rcases hy with hy | rfl; exact (HK.out.pt.lt y hy).2; exact HK.out.lt))
      have HBW := Lib.hid (below_keeps HW0.out HK.out.kp (fun y hy => by rcases hy with hy | rfl; exact HSW.out y hy; omega))
      have z0 : (0 : Int) ≤ (k : Int) := by omega
      by_cases h4 : k < l.length
      · have h5 : (400 : Int) ≤ (k : Int) := by omega
        clear hlt
        go_wp2_with fail
        refine HSM.out.mono ?_
        rintro e w4 ⟨rfl, hb4⟩
        go_wp2_with fail
        refine (sure_true _).mono ?_
        rintro e w5 ⟨rfl, hb5⟩
        go_wp2_with fail
        go_ret
        exact ⟨rfl, bnext (bnext HBW.out hb4) hb5⟩
      · clear hlt
        go_wp2_with fail
        refine HSM.out.mono ?_
        rintro e w4 ⟨rfl, hb4⟩
        go_wp2_with fail
        refine (sure_true _).mono ?_
        rintro e w5 ⟨rfl, hb5⟩
        go_wp2_with fail
        go_ret
        exact ⟨rfl, bnext (bnext HBW.out hb4) hb5⟩

set_option maxHeartbeats 2000000 in
set_option maxRecDepth 100000 in
theorem plays_no (kind many : Int) (v : Value) (w : World) (hg : LaidAt w) (h : ¬ (1 ≤ kind ∧ kind ≤ 3 ∧ 1 ≤ many ∧ many ≤ 4096)) :
    Calls Tryd.prog 4 #[.int .i64 kind, .int .i64 many, v] w fun e w' => e = .returned (.bool true) ∧ Below w.heap.size w w' := by
  have HP := Lib.hid (fun w => pnew_no kind many w h)
  have HR := Lib.hid (fun w => rnew_no kind many w h)
  have HG := Lib.hid hg
  clear h hg
  go_enter Tryd.func4, Tryd.ntmps4
  go_wp2_with fail
  refine (HP.out _).mono ?_
  rintro e w1 ⟨rfl, rfl⟩
  go_wp2_with fail
  refine (HR.out _).mono ?_
  rintro e w1 ⟨rfl, hb1⟩
  have HB1 := Lib.hid (below_alloc hb1 (.cells #[.int .i64 0, .slice none 0 0, .slice none 0 0, .slice none 0 0] 30))
  clear hb1
  go_wp2_with fail
  refine (num_errno 1 _ (HG.out.below HB1.out)).mono ?_
  rintro e w2 ⟨rfl, hb2⟩
  have HB2 := Lib.hid (bnext HB1.out hb2)
  clear hb2
  go_wp2_with fail
  refine (sure_true _).mono ?_
  rintro e w3 ⟨rfl, hb3⟩
  go_wp2_with fail
  go_ret
  exact ⟨rfl, bnext HB2.out hb3⟩

theorem plays_any (kind many : Int) (v : Value) (l : List (Int × Int × Int)) (w : World) (hg : LaidAt w) (hv : OpsAt w v l) :
    Calls Tryd.prog 4 #[.int .i64 kind, .int .i64 many, v] w fun e w' => e = .returned (.bool true) ∧ Below w.heap.size w w' := by
  by_cases h : 1 ≤ kind ∧ kind ≤ 3 ∧ 1 ≤ many ∧ many ≤ 4096
  · obtain ⟨n, rfl⟩ := Int.eq_ofNat_of_zero_le (show 0 ≤ many by omega)
    exact plays_ok kind n v l w hg hv h.1 h.2.1 (by omega) (by omega)
  · exact plays_no kind many v w hg h
end Go.Proofs.YtmmbopaieffgeaaDoor
