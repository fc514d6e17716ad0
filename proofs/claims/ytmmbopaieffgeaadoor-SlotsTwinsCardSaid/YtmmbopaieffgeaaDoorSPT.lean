/- The program's table of slots as it lies in memory: four cells, three rows of its own; what stays where others turn; nothing of the program is walked here; no condition. -/
import Derived.Test.YtmmbopaieffgeaaDoorSAdd
import Derived.Test.YtmmbopaieffgeaaDoorSCount
namespace Go.Proofs.YtmmbopaieffgeaaDoor
open Go.RowKit

theorem Keeps.drew {S : Nat → Prop} {w w' : World} (h : Keeps S w w') : Keeps S w w'.drew := ⟨h.os, h.tape, h.output, h.size, h.block⟩
theorem Keeps.drewN {S : Nat → Prop} {w w' : World} (h : Keeps S w w') (n : Nat) : Keeps S w (w'.drewN n) := ⟨h.os, h.tape, h.output, h.size, h.block⟩
theorem Keeps.setCell {S : Nat → Prop} {w w' : World} (h : Keeps S w w') (p : Addr) (u : Value) (hp : S p.block) : Keeps S w (w'.setCell p u) :=
  ⟨h.os, h.tape, h.output, by simpa [World.setCell] using h.size, fun b hb hn => (Below.heap_setCell w' p u b (fun e => hn (e ▸ hp))).trans (h.block b hb hn)⟩
theorem Keeps.alloc {S : Nat → Prop} {w w' : World} (h : Keeps S w w') (o : Obj) : Keeps S w (w'.alloc o) :=
  h.trans ⟨rfl, rfl, rfl, by simp, fun b hb _ => heap_alloc_old w' o hb⟩
theorem Keeps.grown {S : Nat → Prop} {w w1 w2 : World} {r : Option Nat} (h : Keeps S w w1) (g : w1.grownBy w2 r) (hr : ∀ k, r = some k → S k ∨ w.heap.size ≤ k) : Keeps S w w2 :=
  ⟨g.os.trans h.os, g.tape.trans h.tape, g.output.trans h.output, Nat.le_trans h.size g.size, fun b hb hn => (g.block b (Nat.lt_of_lt_of_le hb h.size) (fun e => by rcases hr b e.symm with k | k; exact hn k; omega)).trans (h.block b hb hn)⟩
theorem own_keeps {S : Nat → Prop} {w w' : World} {B e n : Nat} {v : Value} {xs : List Value} (h : w.ownsRow B e 1 v n xs) (hk : Keeps S w w') (hn : ∀ g, v.ownBlock = some g → ¬ S g) : w'.ownsRow B e 1 v n xs := by
  refine ⟨h.1, ?_⟩
  rcases h.2 with h2 | ⟨g, cap, cur, rfl, hb, hgg, rest⟩
  · exact .inl h2
  · refine .inr ⟨g, cap, cur, rfl, hb, ?_, rest⟩
    rw [hk.block g (Array.getElem?_eq_some_iff.1 hgg).1 (hn g rfl)]
    exact hgg

/-- The program's table in a world. -/
structure PT (B : Nat) (w : World) (A : Tab) (b g1 c1 g2 c2 g3 c3 : Nat) : Prop where
  f0 : w.cell? ⟨b, 0, none⟩ = some (.int .i64 A.kind)
  f1 : w.cell? ⟨b, 1, none⟩ = some (.slice (some ⟨g1, 0, none⟩) A.gens.length c1)
  f2 : w.cell? ⟨b, 2, none⟩ = some (.slice (some ⟨g2, 0, none⟩) A.taken.length c2)
  f3 : w.cell? ⟨b, 3, none⟩ = some (.slice (some ⟨g3, 0, none⟩) A.list.length c3)
  own : Own3 B w A g1 c1 g2 c2 g3 c3
  hb : B ≤ b
  n1 : b ≠ g1
  n2 : b ≠ g2
  n3 : b ≠ g3
/-- The same, its blocks S. -/
def PTab (S : Nat → Prop) (B : Nat) (w : World) (A : Tab) (v : Value) : Prop :=
  ∃ b g1 c1 g2 c2 g3 c3, v = .pointer (some ⟨b, 0, none⟩) ∧ PT B w A b g1 c1 g2 c2 g3 c3 ∧ S = fun x => x = b ∨ x = g1 ∨ x = g2 ∨ x = g3

theorem PT.lts {B : Nat} {w : World} {A : Tab} {b g1 c1 g2 c2 g3 c3 : Nat} (h : PT B w A b g1 c1 g2 c2 g3 c3) : b < w.heap.size ∧ (B ≤ g1 ∧ g1 < w.heap.size) ∧ (B ≤ g2 ∧ g2 < w.heap.size) ∧ (B ≤ g3 ∧ g3 < w.heap.size) :=
  ⟨cell_lt h.f0, h.own.g.lt g1 rfl, h.own.t.lt g2 rfl, h.own.l.lt g3 rfl⟩
theorem PT.keeps {S : Nat → Prop} {B : Nat} {w w' : World} {A : Tab} {b g1 c1 g2 c2 g3 c3 : Nat} (h : PT B w A b g1 c1 g2 c2 g3 c3) (hk : Keeps S w w') (h0 : ¬ S b) (h1 : ¬ S g1) (h2 : ¬ S g2) (h3 : ¬ S g3) : PT B w' A b g1 c1 g2 c2 g3 c3 := by
  obtain ⟨lb, _⟩ := h.lts
  have hc : ∀ o, w'.cell? ⟨b, o, none⟩ = w.cell? ⟨b, o, none⟩ := fun o => hk.cell (p := ⟨b, o, none⟩) lb h0
  exact ⟨(hc 0).trans h.f0, (hc 1).trans h.f1, (hc 2).trans h.f2, (hc 3).trans h.f3,
    ⟨own_keeps h.own.g hk (fun g e => by simp [Value.ownBlock] at e; subst e; exact h1), own_keeps h.own.t hk (fun g e => by simp [Value.ownBlock] at e; subst e; exact h2),
      own_keeps h.own.l hk (fun g e => by simp [Value.ownBlock] at e; subst e; exact h3), h.own.n12, h.own.n13, h.own.n23⟩, h.hb, h.n1, h.n2, h.n3⟩
theorem PTab.lt {S : Nat → Prop} {B : Nat} {w : World} {A : Tab} {v : Value} (h : PTab S B w A v) : ∀ x, S x → B ≤ x ∧ x < w.heap.size := by
  obtain ⟨b, g1, c1, g2, c2, g3, c3, rfl, h, rfl⟩ := h
  obtain ⟨lb, l1, l2, l3⟩ := h.lts
  have := h.hb
  rintro x (rfl | rfl | rfl | rfl)
  · exact ⟨this, lb⟩
  · exact l1
  · exact l2
  · exact l3
theorem PTab.keeps {S T : Nat → Prop} {B : Nat} {w w' : World} {A : Tab} {v : Value} (h : PTab S B w A v) (hk : Keeps T w w') (hd : ∀ x, S x → ¬ T x) : PTab S B w' A v := by
  obtain ⟨b, g1, c1, g2, c2, g3, c3, rfl, h, rfl⟩ := h
  exact ⟨b, g1, c1, g2, c2, g3, c3, rfl, h.keeps hk (hd b (by simp)) (hd g1 (by simp)) (hd g2 (by simp)) (hd g3 (by simp)), rfl⟩
theorem PTab.below {S : Nat → Prop} {B : Nat} {w w' : World} {A : Tab} {v : Value} (h : PTab S B w A v) (hb : Below w.heap.size w w') : PTab S B w' A v :=
  h.keeps (T := fun _ => False) (Keeps.of_below hb) (fun _ _ k => k)

/-- The rows as slices that read. -/
theorem PT.lst {S : Nat → Prop} {B : Nat} {w : World} {A : Tab} {b g1 c1 g2 c2 g3 c3 : Nat} (h : PT B w A b g1 c1 g2 c2 g3 c3) (hA : A.Good) (hS : ∀ x, S x → x < B) :
    RT S w A (.slice (some ⟨g1, 0, none⟩) A.gens.length c1) (.slice (some ⟨g2, 0, none⟩) A.taken.length c2) (.slice (some ⟨g3, 0, none⟩) A.list.length c3) := RT.of_own3 h.own hA hS

/-- What the program's errors are. -/
def errV (n : Int) : Value := if n = 0 then .nilIface else .iface 64 (.int .i64 n)
theorem errV_0 : errV 0 = .nilIface := rfl
theorem errV_ne {n : Int} (h : n ≠ 0) : errV n = .iface 64 (.int .i64 n) := if_neg h
end Go.Proofs.YtmmbopaieffgeaaDoor
