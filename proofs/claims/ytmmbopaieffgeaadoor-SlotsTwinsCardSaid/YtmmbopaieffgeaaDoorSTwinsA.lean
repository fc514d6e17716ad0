/- Words for the law SlotsTwins: a table of the program's and the document's beside it, what stays where others turn; nothing of the program is walked here; no condition. -/
import Derived.Test.YtmmbopaieffgeaaDoorSLawPlays
namespace Go.Proofs.YtmmbopaieffgeaaDoor
open Go.RowKit

/-- A table of the program's (its blocks S) and the document's by value at block R, its rows in none of U. -/
structure Pair (S U : Nat → Prop) (B R : Nat) (w : World) (A : Tab) (v gs ts ls : Value) : Prop where
  good : A.Good
  pt : PTab S B w A v
  rt : RT U w A gs ts ls
  x0 : w.cell? ⟨R, 0, none⟩ = some (.int .i64 A.kind)
  x1 : w.cell? ⟨R, 1, none⟩ = some gs
  x2 : w.cell? ⟨R, 2, none⟩ = some ts
  x3 : w.cell? ⟨R, 3, none⟩ = some ls
  fr : ∀ j, w.frozen? ⟨R, j, none⟩ = false
theorem Pair.lt {S U : Nat → Prop} {B R : Nat} {w : World} {A : Tab} {v gs ts ls : Value} (h : Pair S U B R w A v gs ts ls) : R < w.heap.size := cell_lt h.x0
theorem Pair.keeps {S U X : Nat → Prop} {B R : Nat} {w w' : World} {A : Tab} {v gs ts ls : Value} (h : Pair S U B R w A v gs ts ls) (hk : Keeps X w w') (hU : ∀ y, X y → U y) (hS : ∀ y, S y → ¬ X y) (hR : ¬ X R) : Pair S U B R w' A v gs ts ls :=
  have hc : ∀ j, w'.cell? ⟨R, j, none⟩ = w.cell? ⟨R, j, none⟩ := fun j => hk.cell (p := ⟨R, j, none⟩) h.lt hR
  ⟨h.good, h.pt.keeps hk hS, h.rt.keeps2 hk hU, (hc 0).trans h.x0, (hc 1).trans h.x1, (hc 2).trans h.x2, (hc 3).trans h.x3, fun j => (World.frozen?_of_block (hk.block R h.lt hR)).trans (h.fr j)⟩
theorem Pair.below {S U : Nat → Prop} {B R : Nat} {w w' : World} {A : Tab} {v gs ts ls : Value} (h : Pair S U B R w A v gs ts ls) (hb : Below w.heap.size w w') : Pair S U B R w' A v gs ts ls :=
  h.keeps (X := fun _ => False) (Keeps.of_below hb) (fun _ k => k.elim) (fun _ _ k => k) (fun k => k)
theorem Pair.stepIn {S U : Nat → Prop} {B R : Nat} {w W : World} {A : Tab} {v gs ts ls : Value} (h : Pair S U B R w A v gs ts ls) (hb : Keeps (fun _ => False) w W) (hSU : ∀ y, S y → U y) (hU : ∀ y, U y → y < W.heap.size) (hB : 0 < B) (hl : LaidAt w) : StepIn S U B W A v gs ts ls :=
  ⟨h.pt.keeps hb (fun _ _ k => k), h.rt.keeps2 hb (fun _ k => k.elim), hSU, hU, hB, hl.keeps hb (fun k => k)⟩
/-- Another value is laid at R. -/
theorem Pair.lay {S U X : Nat → Prop} {B R : Nat} {w W : World} {A A' : Tab} {v gs ts ls gs' ts' ls' : Value} (h : Pair S U B R w A v gs ts ls) (hk : Keeps X w W) (hX : ¬ X R) (hR : ¬ S R) (hUR : U R) (hG : A'.Good) (hp : PTab S B W A' v) (hr : RT U W A' gs' ts' ls') (u : World)
    (hu : u = (((W.setCell ⟨R, 0, none⟩ (.int .i64 A'.kind)).setCell ⟨R, 1, none⟩ gs').setCell ⟨R, 2, none⟩ ts').setCell ⟨R, 3, none⟩ ls') : Pair S U B R u A' v gs' ts' ls' := by
  subst hu
  have hc : ∀ j, W.cell? ⟨R, j, none⟩ = w.cell? ⟨R, j, none⟩ := fun j => hk.cell (p := ⟨R, j, none⟩) h.lt hX
  obtain ⟨x0, x1, x2, x3⟩ := set4 (.int .i64 A'.kind) gs' ts' ls' ((hc 0).trans h.x0) ((hc 1).trans h.x1) ((hc 2).trans h.x2) ((hc 3).trans h.x3)
  have k4 : Keeps (fun y => y = R) W ((((W.setCell ⟨R, 0, none⟩ (.int .i64 A'.kind)).setCell ⟨R, 1, none⟩ gs').setCell ⟨R, 2, none⟩ ts').setCell ⟨R, 3, none⟩ ls') := keeps_four R _ (Keeps.refl _ _) rfl
  refine ⟨hG, hp.keeps k4 (fun y hy e => hR (e ▸ hy)), hr.keeps2 k4 (fun y e => e ▸ hUR), x0, x1, x2, x3, fun j => ?_⟩
  rw [World.frozen?_setCell, World.frozen?_setCell, World.frozen?_setCell, World.frozen?_setCell]
  exact (World.frozen?_of_block (hk.block R h.lt hX)).trans (h.fr j)

theorem PTab.base {S : Nat → Prop} {B B' : Nat} {w : World} {A : Tab} {v : Value} (h : PTab S B' w A v) (hB : B ≤ B') : PTab S B w A v := by
  obtain ⟨b, g1, c1, g2, c2, g3, c3, rfl, h, rfl⟩ := h
  exact ⟨b, g1, c1, g2, c2, g3, c3, rfl, ⟨h.f0, h.f1, h.f2, h.f3, ⟨own_base h.own.g hB, own_base h.own.t hB, own_base h.own.l hB, h.own.n12, h.own.n13, h.own.n23⟩, Nat.le_trans hB h.hb, h.n1, h.n2, h.n3⟩, rfl⟩

/-- What a step's statement loads: the document's table at R, the act; only S has turned. -/
def TwinHeld (S : Nat → Prop) (w : World) (R b1 o1 : Nat) (kd : Int) (gs ts ls : Value) (ka hb xc : Int) (W : World) : Prop :=
  W.cell? ⟨R, 0, none⟩ = some (.int .i64 kd) ∧ W.cell? ⟨R, 1, none⟩ = some gs ∧ W.cell? ⟨R, 2, none⟩ = some ts ∧ W.cell? ⟨R, 3, none⟩ = some ls ∧ W.cell? ⟨b1, o1, none⟩ = some (.int .i64 ka) ∧ W.cell? ⟨b1, o1 + 1, none⟩ = some (.int .i64 hb) ∧ W.cell? ⟨b1, o1 + 2, none⟩ = some (.int .i64 xc) ∧ Keeps S w W
theorem twin_cells {S U : Nat → Prop} {B R b1 o1 : Nat} {w : World} {A : Tab} {v gs ts ls : Value} {ka hb xc : Int} (h : Pair S U B R w A v gs ts ls) (c0 : w.cell? ⟨b1, o1, none⟩ = some (.int .i64 ka)) (c1 : w.cell? ⟨b1, o1 + 1, none⟩ = some (.int .i64 hb)) (c2 : w.cell? ⟨b1, o1 + 2, none⟩ = some (.int .i64 xc)) (hl : b1 < w.heap.size) (n1 : ¬ S b1) (nR : ¬ S R) :
    ∀ W, Keeps S w W → TwinHeld S w R b1 o1 A.kind gs ts ls ka hb xc W := fun _ hW =>
  ⟨(hW.cell (p := ⟨R, 0, none⟩) h.lt nR).trans h.x0, (hW.cell (p := ⟨R, 1, none⟩) h.lt nR).trans h.x1, (hW.cell (p := ⟨R, 2, none⟩) h.lt nR).trans h.x2, (hW.cell (p := ⟨R, 3, none⟩) h.lt nR).trans h.x3,
    (hW.cell (p := ⟨b1, o1, none⟩) hl n1).trans c0, (hW.cell (p := ⟨b1, o1 + 1, none⟩) hl n1).trans c1, (hW.cell (p := ⟨b1, o1 + 2, none⟩) hl n1).trans c2, hW⟩

theorem Pair.at {S U X : Nat → Prop} {B R : Nat} {w W : World} {A : Tab} {v gs ts ls : Value} (h : Pair S U B R w A v gs ts ls) (hk : Keeps X w W) (hX : ¬ X R) : W.cell? ⟨R, 0, none⟩ = some (.int .i64 A.kind) ∧ W.cell? ⟨R, 1, none⟩ = some gs ∧ W.cell? ⟨R, 2, none⟩ = some ts ∧ W.cell? ⟨R, 3, none⟩ = some ls ∧ (∀ j, W.frozen? ⟨R, j, none⟩ = false) :=
  have hc : ∀ j, W.cell? ⟨R, j, none⟩ = w.cell? ⟨R, j, none⟩ := fun j => hk.cell (p := ⟨R, j, none⟩) h.lt hX
  ⟨(hc 0).trans h.x0, (hc 1).trans h.x1, (hc 2).trans h.x2, (hc 3).trans h.x3, fun j => (World.frozen?_of_block (hk.block R h.lt hX)).trans (h.fr j)⟩
theorem two_held {w : World} {bx y ra rb : Nat} {a0 a1 a2 a3 b0 b1 b2 b3 : Value} (u0 : w.cell? ⟨y, 0, none⟩ = some b0) (u1 : w.cell? ⟨y, 1, none⟩ = some b1) (u2 : w.cell? ⟨y, 2, none⟩ = some b2) (u3 : w.cell? ⟨y, 3, none⟩ = some b3) (hy : y < w.heap.size)
    (v0 : w.cell? ⟨bx, 0, none⟩ = some a0) (v1 : w.cell? ⟨bx, 1, none⟩ = some a1) (v2 : w.cell? ⟨bx, 2, none⟩ = some a2) (v3 : w.cell? ⟨bx, 3, none⟩ = some a3) (hx : bx < w.heap.size) (xa : ¬ bx = ra) (xb : ¬ bx = rb) (ya : ¬ y = ra) (yb : ¬ y = rb) :
    ∀ W, Keeps (fun z => z = ra ∨ z = rb) w W → (W.cell? ⟨bx, 0, none⟩ = some a0 ∧ W.cell? ⟨bx, 1, none⟩ = some a1 ∧ W.cell? ⟨bx, 2, none⟩ = some a2 ∧ W.cell? ⟨bx, 3, none⟩ = some a3 ∧ W.cell? ⟨y, 0, none⟩ = some b0 ∧ W.cell? ⟨y, 1, none⟩ = some b1 ∧ W.cell? ⟨y, 2, none⟩ = some b2 ∧ W.cell? ⟨y, 3, none⟩ = some b3 ∧ Keeps (fun z => z = ra ∨ z = rb) w W) := fun W hk =>
  have cx : ∀ j, W.cell? ⟨bx, j, none⟩ = w.cell? ⟨bx, j, none⟩ := fun j => hk.cell (p := ⟨bx, j, none⟩) hx (fun c => c.elim xa xb)
  have cy : ∀ j, W.cell? ⟨y, j, none⟩ = w.cell? ⟨y, j, none⟩ := fun j => hk.cell (p := ⟨y, j, none⟩) hy (fun c => c.elim ya yb)
  ⟨(cx 0).trans v0, (cx 1).trans v1, (cx 2).trans v2, (cx 3).trans v3, (cy 0).trans u0, (cy 1).trans u1, (cy 2).trans u2, (cy 3).trans u3, hk⟩

/-- Behind a step, its answer laid at a block of its own; the rows of the document's tables are none of U. -/
def Cut3 (S U : Nat → Prop) (B : Nat) (w : World) (v s12 s13 : Value) (wx : World) : Prop :=
  ∃ (A' : Tab) (p : Option Addr) (cp : Nat) (q : Option Addr) (cq : Nat) (r : Option Addr) (cr bx : Nat), s12 = .pointer (some ⟨bx, 0, none⟩) ∧ s13 = .bool true ∧ A'.Good ∧ PTab S B wx A' v ∧ RT U wx A' (.slice p A'.gens.length cp) (.slice q A'.taken.length cq) (.slice r A'.list.length cr) ∧ Keeps S w wx ∧
    wx.cell? ⟨bx, 0, none⟩ = some (.int .i64 A'.kind) ∧ wx.cell? ⟨bx, 1, none⟩ = some (.slice p A'.gens.length cp) ∧ wx.cell? ⟨bx, 2, none⟩ = some (.slice q A'.taken.length cq) ∧ wx.cell? ⟨bx, 3, none⟩ = some (.slice r A'.list.length cr) ∧ w.heap.size ≤ bx ∧ bx < wx.heap.size
theorem cut3_1 {S U : Nat → Prop} {B : Nat} {w W : World} {A' : Tab} {v : Value} {p q r : Option Addr} {cp cq cr : Nat} (ho : A'.Good) (hp : PTab S B W A' v) (hr : RT U W A' (.slice p A'.gens.length cp) (.slice q A'.taken.length cq) (.slice r A'.list.length cr)) (hk : Keeps S w.drew W) :
    Cut3 S U B w v (.pointer (some ⟨W.heap.size, 0, none⟩)) (.bool true) (W.alloc (.cells #[.int .i64 A'.kind, .slice p A'.gens.length cp, .slice q A'.taken.length cq, .slice r A'.list.length cr] 30)) := by
  obtain ⟨x0, x1, x2, x3⟩ := rv_cells W A'.kind (.slice p A'.gens.length cp) (.slice q A'.taken.length cq) (.slice r A'.list.length cr) 30 _ (Below.refl _ _)
  have ka : Keeps (fun _ => False) W (W.alloc (.cells #[.int .i64 A'.kind, .slice p A'.gens.length cp, .slice q A'.taken.length cq, .slice r A'.list.length cr] 30)) := (Keeps.refl _ W).alloc _
  have hk' := Keeps.trans ((Keeps.refl S w).drew) hk
  exact ⟨A', p, cp, q, cq, r, cr, _, rfl, rfl, ho, hp.keeps ka (fun _ _ k => k), hr.keeps2 ka (fun _ k => k.elim), hk'.alloc _, x0, x1, x2, x3, hk'.size, cell_lt x0⟩
theorem cut3_2 {S U : Nat → Prop} {B : Nat} {w W : World} {A' : Tab} {v : Value} {p q r : Option Addr} {cp cq cr : Nat} (hS : ∀ y, S y → y < w.heap.size) (ho : A'.Good) (hp : PTab S B W A' v) (hr : RT (fun y => U y ∨ y = w.heap.size) W A' (.slice p A'.gens.length cp) (.slice q A'.taken.length cq) (.slice r A'.list.length cr))
    {o : Obj} (hk : Keeps S (w.drew.alloc o) W) {e0 e1 e2 e3 : Value}
    (d0 : W.cell? ⟨w.heap.size, 0, none⟩ = some e0) (d1 : W.cell? ⟨w.heap.size, 1, none⟩ = some e1) (d2 : W.cell? ⟨w.heap.size, 2, none⟩ = some e2) (d3 : W.cell? ⟨w.heap.size, 3, none⟩ = some e3) :
    Cut3 S U B w v (.pointer (some ⟨w.heap.size, 0, none⟩)) (.bool true) ((((W.setCell ⟨w.heap.size, 0, none⟩ (.int .i64 A'.kind)).setCell ⟨w.heap.size, 1, none⟩ (.slice p A'.gens.length cp)).setCell ⟨w.heap.size, 2, none⟩ (.slice q A'.taken.length cq)).setCell ⟨w.heap.size, 3, none⟩ (.slice r A'.list.length cr)) := by
  obtain ⟨x0, x1, x2, x3⟩ := set4 (.int .i64 A'.kind) (.slice p A'.gens.length cp) (.slice q A'.taken.length cq) (.slice r A'.list.length cr) d0 d1 d2 d3
  have ka : Keeps (fun y => y = w.heap.size) W ((((W.setCell ⟨w.heap.size, 0, none⟩ (.int .i64 A'.kind)).setCell ⟨w.heap.size, 1, none⟩ (.slice p A'.gens.length cp)).setCell ⟨w.heap.size, 2, none⟩ (.slice q A'.taken.length cq)).setCell ⟨w.heap.size, 3, none⟩ (.slice r A'.list.length cr)) := keeps_from (S := fun y => y = w.heap.size) w.heap.size _ _ _ _ rfl
  have hk' := Keeps.trans (((Keeps.refl S w).drew).alloc o) hk
  exact ⟨A', p, cp, q, cq, r, cr, _, rfl, rfl, ho, hp.keeps ka (fun y hy e => by have := hS y hy; omega), (hr.keeps2 ka (fun y e => .inr e)).mono (fun y _ h => .inl h), keeps_new4 hk' _ (Nat.le_refl _) _ _ _ _, x0, x1, x2, x3, Nat.le_refl _, cell_lt x0⟩

/-- The blocks of three tables and of the document's beside them: none of one is one of another's. -/
structure Apart (S1 S2 S3 U : Nat → Prop) (R1 R2 R3 B : Nat) : Prop where
  d12 : ∀ y, S1 y → ¬ S2 y
  d13 : ∀ y, S1 y → ¬ S3 y
  d23 : ∀ y, S2 y → ¬ S3 y
  s1 : ∀ y, S1 y → U y ∧ y ≠ R1 ∧ y ≠ R2 ∧ y ≠ R3
  s2 : ∀ y, S2 y → U y ∧ y ≠ R1 ∧ y ≠ R2 ∧ y ≠ R3
  s3 : ∀ y, S3 y → U y ∧ y ≠ R1 ∧ y ≠ R2 ∧ y ≠ R3
  ne : R1 ≠ R2 ∧ R1 ≠ R3 ∧ R2 ≠ R3
  ur : U R1 ∧ U R2 ∧ U R3
  low : ∀ y, U y → B ≤ y
theorem Apart.swap {S1 S2 S3 U : Nat → Prop} {R1 R2 R3 B : Nat} (h : Apart S1 S2 S3 U R1 R2 R3 B) : Apart S1 S3 S2 U R1 R3 R2 B :=
  ⟨h.d13, h.d12, fun y a b => h.d23 y b a, fun y k => ⟨(h.s1 y k).1, (h.s1 y k).2.1, (h.s1 y k).2.2.2, (h.s1 y k).2.2.1⟩, fun y k => ⟨(h.s3 y k).1, (h.s3 y k).2.1, (h.s3 y k).2.2.2, (h.s3 y k).2.2.1⟩, fun y k => ⟨(h.s2 y k).1, (h.s2 y k).2.1, (h.s2 y k).2.2.2, (h.s2 y k).2.2.1⟩,
    ⟨h.ne.2.1, h.ne.1, h.ne.2.2.symm⟩, ⟨h.ur.1, h.ur.2.2, h.ur.2.1⟩, h.low⟩
theorem apart_of {S1 S2 S3 U : Nat → Prop} {R1 R2 R3 B B1 B2 B3 B4 : Nat} (hU : U = fun y => S1 y ∨ S2 y ∨ S3 y ∨ y = R1 ∨ y = R2 ∨ y = R3) (h1 : ∀ y, S1 y → B ≤ y ∧ y < B1) (n1 : ¬ S1 R1) (l1 : R1 < B1) (l0 : B ≤ R1) (h2 : ∀ y, S2 y → B1 ≤ y ∧ y < B2) (b2 : B2 ≤ B3)
    (h3 : ∀ y, S3 y → B3 ≤ y ∧ y < B4) (b1 : B1 ≤ B2) (b4 : B3 ≤ B4) (l2 : B4 ≤ R2) (l3 : B4 ≤ R3) (hab : R2 ≠ R3) : Apart S1 S2 S3 U R1 R2 R3 B := by
  subst hU
  refine ⟨fun y a b => ?_, fun y a b => ?_, fun y a b => ?_, fun y a => ⟨.inl a, ?_⟩, fun y a => ⟨.inr (.inl a), ?_⟩, fun y a => ⟨.inr (.inr (.inl a)), ?_⟩, ?_, ⟨.inr (.inr (.inr (.inl rfl))), .inr (.inr (.inr (.inr (.inl rfl)))), .inr (.inr (.inr (.inr (.inr rfl))))⟩, ?_⟩
  · have := h1 y a; have := h2 y b; omega
  · have := h1 y a; have := h3 y b; omega
  · have := h2 y a; have := h3 y b; omega
  · have := h1 y a; exact ⟨fun e => n1 (e ▸ a), by omega, by omega⟩
  · have := h2 y a; exact ⟨by omega, by omega, by omega⟩
  · have := h3 y a; exact ⟨by omega, by omega, by omega⟩
  · exact ⟨by omega, by omega, hab⟩
  · rintro y (k | k | k | k | k | k)
    · exact (h1 y k).1
    · have := (h2 y k).1; omega
    · have := (h3 y k).1; omega
    · omega
    · omega
    · omega
/-- A round's two answers laid, the one behind the other. -/
theorem tri_next {S1 S2 S3 U : Nat → Prop} {R1 R2 R3 B : Nat} {w W : World} {A1 A2 A3 A2' A3' : Tab} {v1 v2 v3 g1 t1 l1 g2 t2 l2 g3 t3 l3 g2' t2' l2' g3' t3' l3' : Value} (ha : Apart S1 S2 S3 U R1 R2 R3 B)
    (h1 : Pair S1 U B R1 w A1 v1 g1 t1 l1) (h2 : Pair S2 U B R2 w A2 v2 g2 t2 l2) (h3 : Pair S3 U B R3 w A3 v3 g3 t3 l3) (hk : Keeps (fun y => S2 y ∨ S3 y) w W)
    (hG2 : A2'.Good) (hp2 : PTab S2 B W A2' v2) (hr2 : RT U W A2' g2' t2' l2') (hG3 : A3'.Good) (hp3 : PTab S3 B W A3' v3) (hr3 : RT U W A3' g3' t3' l3') (u W2 : World)
    (hW2 : W2 = (((W.setCell ⟨R2, 0, none⟩ (.int .i64 A2'.kind)).setCell ⟨R2, 1, none⟩ g2').setCell ⟨R2, 2, none⟩ t2').setCell ⟨R2, 3, none⟩ l2')
    (hu : u = (((W2.setCell ⟨R3, 0, none⟩ (.int .i64 A3'.kind)).setCell ⟨R3, 1, none⟩ g3').setCell ⟨R3, 2, none⟩ t3').setCell ⟨R3, 3, none⟩ l3') :
    Pair S1 U B R1 u A1 v1 g1 t1 l1 ∧ Pair S2 U B R2 u A2' v2 g2' t2' l2' ∧ Pair S3 U B R3 u A3' v3 g3' t3' l3' ∧ Keeps U w u := by
  have k2 : Keeps (fun y => y = R2) W W2 := keeps_four R2 _ (Keeps.refl _ _) hW2
  have k3 : Keeps (fun y => y = R3) W2 u := keeps_four R3 _ (Keeps.refl _ _) hu
  have n2 : ¬ (S2 R2 ∨ S3 R2) := by
    rintro (h | h)
    · exact (ha.s2 _ h).2.2.1 rfl
    · exact (ha.s3 _ h).2.2.1 rfl
  have q2 := h2.lay hk n2 (fun h => (ha.s2 _ h).2.2.1 rfl) ha.ur.2.1 hG2 hp2 hr2 W2 hW2
  have kw2 : Keeps (fun y => S2 y ∨ S3 y ∨ y = R2) w W2 := (hk.mono (fun y h => by rcases h with h | h; exact .inl h; exact .inr (.inl h))).trans (k2.mono (fun y h => .inr (.inr h)))
  have n3 : ¬ (S2 R3 ∨ S3 R3 ∨ R3 = R2) := by
    rintro (h | h | h)
    · exact (ha.s2 _ h).2.2.2 rfl
    · exact (ha.s3 _ h).2.2.2 rfl
    · exact ha.ne.2.2 h.symm
  have q3 := h3.lay kw2 n3 (fun h => (ha.s3 _ h).2.2.2 rfl) ha.ur.2.2 hG3 (hp3.keeps k2 (fun y hy e => (ha.s3 y hy).2.2.1 e)) (hr3.keeps2 k2 (fun y e => e ▸ ha.ur.2.1)) u hu
  have kwu : Keeps (fun y => S2 y ∨ S3 y ∨ y = R2 ∨ y = R3) w u := (kw2.mono (fun y h => by rcases h with h | h | h; exact .inl h; exact .inr (.inl h); exact .inr (.inr (.inl h)))).trans (k3.mono (fun y h => .inr (.inr (.inr h))))
  have hU : ∀ y, (S2 y ∨ S3 y ∨ y = R2 ∨ y = R3) → U y := by
    rintro y (h | h | h | h)
    · exact (ha.s2 y h).1
    · exact (ha.s3 y h).1
    · exact h ▸ ha.ur.2.1
    · exact h ▸ ha.ur.2.2
  refine ⟨h1.keeps kwu hU ?_ ?_, q2.keeps k3 (fun y e => e ▸ ha.ur.2.2) (fun y hy e => (ha.s2 y hy).2.2.2 e) ha.ne.2.2, q3, kwu.mono hU⟩
  · rintro y hy (h | h | h | h)
    · exact ha.d12 y hy h
    · exact ha.d13 y hy h
    · exact (ha.s1 y hy).2.2.1 h
    · exact (ha.s1 y hy).2.2.2 h
  · rintro (h | h | h | h)
    · exact (ha.s2 _ h).2.1 rfl
    · exact (ha.s3 _ h).2.1 rfl
    · exact ha.ne.1 h
    · exact ha.ne.2.1 h

/-- A table's things, told: of the slots that are taken, by their slots. -/
def thingsTo (A : Tab) (k : Nat) : List Int := (A.idxs.take k).map A.v
theorem things_all (A : Tab) : thingsTo A A.idxs.length = A.idxs.map A.v := by unfold thingsTo; rw [List.take_of_length_le (Nat.le_refl _)]
theorem things_succ {A : Tab} {k i : Nat} (h : A.idxs[k]? = some i) : thingsTo A (k + 1) = thingsTo A k ++ [A.v i] := by
  have hk : k < A.idxs.length := (List.getElem?_eq_some_iff.1 h).1
  unfold thingsTo
  rw [List.take_add_one, h]
  simp
theorem things_len {A : Tab} {k : Nat} (h : k ≤ A.idxs.length) : (thingsTo A k).length = k := by unfold thingsTo; simp; omega
theorem idxs_mem {A : Tab} {k i : Nat} (h : A.idxs[k]? = some i) : i < A.gens.length ∧ A.t i = true := by
  have hm := List.mem_of_getElem? h
  unfold Tab.idxs at hm
  rw [List.mem_filter, List.mem_range] at hm
  exact hm
theorem all_at {A : Tab} {k i : Nat} (h : A.idxs[k]? = some i) : A.all[k]? = some (A.hd i) := by
  unfold Tab.all; rw [List.getElem?_map, h]; rfl
theorem idxs_le (A : Tab) : A.idxs.length ≤ A.gens.length := by
  unfold Tab.idxs Tab.n
  have := List.length_filter_le A.t (List.range A.gens.length)
  simpa using this
theorem find_hd {A : Tab} (hA : A.Good) {i : Nat} (hi : i < A.gens.length) (ht : A.t i = true) : A.find (A.hd i) = some i := by
  obtain ⟨a, b, c, d⟩ := hd_parts hA hi ht
  exact find_some hA hi ht a b c d
theorem load_self {A : Tab} (hA : A.Good) (hz : Zf A) : Tab.load A.kind A.gens A.taken (A.idxs.map A.v) = A := by
  have h := load_all A hA
  have hl : fillL A.gens.length A.taken (A.idxs.map A.v) = A.list := by
    apply List.ext_getElem?
    intro i
    by_cases hi : i < A.gens.length
    · have e1 : (fillL A.gens.length A.taken (A.idxs.map A.v)).getD i 0 = A.v i := by
        cases ht : A.t i with
        | true => exact h.v i hi ht
        | false =>
          rw [fillL_at _ _ hi, if_neg (by unfold Tab.t at ht; rw [ht]; simp)]
          exact (hz i ht).symm
      have l1 : i < (fillL A.gens.length A.taken (A.idxs.map A.v)).length := by rw [fillL_len]; exact hi
      have l2 : i < A.list.length := by rw [hA.ll]; exact hi
      generalize A.idxs.map A.v = ms at *
      unfold Tab.v at e1
      rw [List.getD_eq_getElem?_getD, List.getD_eq_getElem?_getD, List.getElem?_eq_getElem l1, List.getElem?_eq_getElem l2] at e1
      rw [List.getElem?_eq_getElem l1, List.getElem?_eq_getElem l2]
      simpa using e1
    · rw [List.getElem?_eq_none (by rw [fillL_len]; omega), List.getElem?_eq_none (by rw [hA.ll]; omega)]
  unfold Tab.load
  rw [hl]
theorem stand_self {A : Tab} (hA : A.Good) : standB A.gens A.taken A.gens.length := by
  intro i hi
  unfold okG
  have h1 := hA.g1 i hi
  have h2 := hA.gt i hi
  unfold Tab.g at h1 h2
  unfold Tab.t at h2
  by_cases ht : A.taken.getD i false = true
  · rw [if_pos ht]; exact ⟨h1.1, h2 ht⟩
  · rw [if_neg ht]; exact h1
theorem rank_self {A : Tab} (hA : A.Good) : (A.idxs.map A.v).length = rank A.taken A.taken.length := by rw [List.length_map, idxs_count, hA.lt]
end Go.Proofs.YtmmbopaieffgeaaDoor
