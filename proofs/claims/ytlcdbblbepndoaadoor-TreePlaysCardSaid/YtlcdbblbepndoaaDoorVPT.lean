/- The program's table of slots as it lies in memory: four cells, three rows of its own; what stays where others turn; nothing of the program is walked here; no condition. -/
import Derived.Test.YtlcdbblbepndoaaDoorSHand
import Derived.Test.YtlcdbblbepndoaaDoorSKeep
namespace Go.Proofs.YtlcdbblbepndoaaDoor
open Go.RowKit

/-- Three rows of the call's own, none the other. -/
structure OwnV (B : Nat) (w : World) (A : Tab) (g1 c1 g2 c2 g3 c3 : Nat) : Prop where
  g : w.ownsRow B 3 1 (.slice (some ⟨g1, 0, none⟩) A.gens.length c1) A.gens.length (ints A.gens)
  t : w.ownsRow B 4 1 (.slice (some ⟨g2, 0, none⟩) A.taken.length c2) A.taken.length (bools A.taken)
  l : w.ownsRow B 33 1 (.slice (some ⟨g3, 0, none⟩) A.list.length c3) A.list.length (ints A.list)
  n12 : g1 ≠ g2
  n13 : g1 ≠ g3
  n23 : g2 ≠ g3

/-- The program's table in a world. -/
structure PT (B : Nat) (w : World) (A : Tab) (b g1 c1 g2 c2 g3 c3 : Nat) : Prop where
  f0 : w.cell? ⟨b, 0, none⟩ = some (.int .i64 A.kind)
  f1 : w.cell? ⟨b, 1, none⟩ = some (.slice (some ⟨g1, 0, none⟩) A.gens.length c1)
  f2 : w.cell? ⟨b, 2, none⟩ = some (.slice (some ⟨g2, 0, none⟩) A.taken.length c2)
  f3 : w.cell? ⟨b, 3, none⟩ = some (.slice (some ⟨g3, 0, none⟩) A.list.length c3)
  own : OwnV B w A g1 c1 g2 c2 g3 c3
  hb : B ≤ b
  n1 : b ≠ g1
  n2 : b ≠ g2
  n3 : b ≠ g3
/-- The same, its blocks S. -/
def PTab (S : Nat → Prop) (B : Nat) (w : World) (A : Tab) (v : Value) : Prop :=
  ∃ b g1 c1 g2 c2 g3 c3, v = .pointer (some ⟨b, 0, none⟩) ∧ PT B w A b g1 c1 g2 c2 g3 c3 ∧ S = fun x => x = b ∨ x = g1 ∨ x = g2 ∨ x = g3

theorem PT.lts {B : Nat} {w : World} {A : Tab} {b g1 c1 g2 c2 g3 c3 : Nat} (h : PT B w A b g1 c1 g2 c2 g3 c3) : b < w.heap.size ∧ (B ≤ g1 ∧ g1 < w.heap.size) ∧ (B ≤ g2 ∧ g2 < w.heap.size) ∧ (B ≤ g3 ∧ g3 < w.heap.size) :=
  ⟨cell_lt h.f0, h.own.g.lt g1 rfl, h.own.t.lt g2 rfl, h.own.l.lt g3 rfl⟩
theorem PT.keeps {S : Nat → Prop} {B : Nat} {w w' : World} {A : Tab} {b g1 c1 g2 c2 g3 c3 : Nat} (h : PT B w A b g1 c1 g2 c2 g3 c3) (hk : Keeps S w w') (h0 : ¬ S b) (h1 : ¬ S g1) (h2 : ¬ S g2) (h3 : ¬ S g3) : PT B w' A b g1 c1 g2 c2 g3 c3 := by
  obtain ⟨lb, _⟩ := h.lts
  have hc : ∀ o, w'.cell? ⟨b, o, none⟩ = w.cell? ⟨b, o, none⟩ := fun o => hk.cell (p := ⟨b, o, none⟩) lb h0
  exact ⟨(hc 0).trans h.f0, (hc 1).trans h.f1, (hc 2).trans h.f2, (hc 3).trans h.f3,
    ⟨own_keeps h.own.g hk (fun g e => by simp [Value.ownBlock] at e; subst e; exact h1), own_keeps h.own.t hk (fun g e => by simp [Value.ownBlock] at e; subst e; exact h2),
      own_keeps h.own.l hk (fun g e => by simp [Value.ownBlock] at e; subst e; exact h3), h.own.n12, h.own.n13, h.own.n23⟩, h.hb, h.n1, h.n2, h.n3⟩
theorem PTab.lt {S : Nat → Prop} {B : Nat} {w : World} {A : Tab} {v : Value} (h : PTab S B w A v) : ∀ x, S x → B ≤ x ∧ x < w.heap.size := by
  obtain ⟨b, g1, c1, g2, c2, g3, c3, rfl, h, rfl⟩ := h
  obtain ⟨lb, l1, l2, l3⟩ := h.lts
  have := h.hb
  rintro x (rfl | rfl | rfl | rfl)
  · exact ⟨this, lb⟩
  · exact l1
  · exact l2
  · exact l3
theorem PTab.keeps {S T : Nat → Prop} {B : Nat} {w w' : World} {A : Tab} {v : Value} (h : PTab S B w A v) (hk : Keeps T w w') (hd : ∀ x, S x → ¬ T x) : PTab S B w' A v := by
  obtain ⟨b, g1, c1, g2, c2, g3, c3, rfl, h, rfl⟩ := h
  exact ⟨b, g1, c1, g2, c2, g3, c3, rfl, h.keeps hk (hd b (by simp)) (hd g1 (by simp)) (hd g2 (by simp)) (hd g3 (by simp)), rfl⟩
theorem PTab.below {S : Nat → Prop} {B : Nat} {w w' : World} {A : Tab} {v : Value} (h : PTab S B w A v) (hb : Below w.heap.size w w') : PTab S B w' A v :=
  h.keeps (T := fun _ => False) (Keeps.of_below hb) (fun _ _ k => k)

end Go.Proofs.YtlcdbblbepndoaaDoor
