/- Small laws of stage 11's texts, beside stage 4's and 5's: what stays where some blocks turn, rows of the call's own, blocks known whole; nothing of the program is walked; no condition. -/
import Derived.Test.YtlnamkplbikcjaaGreatDoorProg
import Derived.Test.YtlnamkplbikcjaaGreatDoorFRow
import Derived.WalkSpells
import Derived.WalkLawsBesides
import Derived.Deep.QuietTactic
import Derived.BigQuiet
import Derived.Deep.LoopGhost
import Derived.Deep.AppendLies
import Derived.StillTailTactics
import Derived.Deep.DeepCutAuto
import Derived.Deep.RegionHeld3
import Derived.Deep.Upon
import Derived.Shelf.Abstract
import Derived.IntWalk
namespace Go.Proofs.YtlnamkplbikcjaaGreatDoor
open Go.RowKit

theorem Tryz.info3 : (Tryz.prog.info? 3).map (fun i => (i.zero, i.size, i.bytes)) = some (some (.int .i64 0), 1, 8) := by kernel_rfl
theorem Tryz.info4 : (Tryz.prog.info? 4).map (fun i => (i.zero, i.size, i.bytes)) = some (some (.bool false), 1, 1) := by kernel_rfl
theorem addr_plus (b off j : Nat) : (⟨b, off, none⟩ : Addr).add j = ⟨b, off + j, none⟩ := by
  unfold Addr.add
  split
  · next h => subst h; rfl
  · rfl
theorem below_of_grown {w w' : World} (h : w.grownBy w' none) : Below w.heap.size w w' := (Below.refl _ _).grown h (Nat.le_refl _) (fun _ h => by cases h)
theorem grown_set (w : World) (p : Addr) (u : Value) : w.grownBy (w.setCell p u) (some p.block) :=
  ⟨rfl, rfl, rfl, by simp [World.setCell], fun i _ hne => Below.heap_setCell w p u i (fun e => hne (by rw [e]))⟩
theorem own_other {e B n : Nat} {w : World} {v : Value} {xs : List Value} (h : w.ownsRow B e 1 v n xs) (p : Addr) (u : Value) (hp : v.ownBlock ≠ some p.block) : (w.setCell p u).ownsRow B e 1 v n xs :=
  World.ownsRow.kept (row := some p.block) h (grown_set w p u) (.inr hp)
theorem ret_two {a b x y : Int} (h1 : a = x) (h2 : b = y) : Ending.returned (.tuple #[.int .i64 a, .int .i64 b]) = .returned (.tuple #[.int .i64 x, .int .i64 y]) := by rw [h1, h2]
theorem ints_set (l : List Int) (i : Nat) (v : Int) : (ints l).set i (.int .i64 v) = ints (l.set i v) := by unfold ints; rw [List.map_set]
theorem bools_set (l : List Bool) (i : Nat) (v : Bool) : (bools l).set i (.bool v) = bools (l.set i v) := by unfold bools; rw [List.map_set]
theorem below_keeps {S : Nat → Prop} {w w1 w2 : World} (h : Below w.heap.size w w1) (k : Keeps S w1 w2) (hS : ∀ b, S b → w.heap.size ≤ b) : Below w.heap.size w w2 :=
  h.trans (k.below h.size hS)
theorem own_base {B B' e n : Nat} {w : World} {v : Value} {xs : List Value} (h : w.ownsRow B e 1 v n xs) (hb : B' ≤ B) : w.ownsRow B' e 1 v n xs := by
  refine ⟨h.1, ?_⟩
  rcases h.2 with h2 | ⟨g, cap, cur, rfl, h3, rest⟩
  · exact .inl h2
  · exact .inr ⟨g, cap, cur, rfl, Nat.le_trans hb h3, rest⟩
theorem own_made {B : Nat} (W : World) (e : TypeId) (z : Value) (n s : Nat) (hs : s = W.heap.size) (hb : B ≤ s) (hn : n ≤ 4096) : (W.alloc (.cells (madeCells #[z] n) e)).ownsRow B e 1 (.slice (some ⟨s, 0, none⟩) n n) n (List.replicate n z) := by
  subst hs
  rw [← toList_madeCells_one]
  exact World.ownsRow_lit W _ n hb (by unfold maxLen; omega) (by simp [size_madeCells])
theorem own_drew {B e n : Nat} {w : World} {v : Value} {xs : List Value} (h : w.ownsRow B e 1 v n xs) : w.drew.ownsRow B e 1 v n xs := h
theorem below_drew {B : Nat} {w a : World} (h : Below B w a) : Below B w a.drew := ⟨h.os, h.tape, h.output, h.size, h.block⟩
theorem below_alloc {w a : World} (h : Below w.heap.size w a) (o : Obj) : Below w.heap.size w (a.alloc o) := h.alloc h.size o
theorem own_cells {B e n cap : Nat} {w : World} {g : Nat} {xs : List Value} (h : w.ownsRow B e 1 (.slice (some ⟨g, 0, none⟩) n cap) n xs) : ∀ j u, xs[j]? = some u → w.cell? ⟨g, 0 + j, none⟩ = some u := by
  intro j u hu
  have := h.cells (g := g) rfl j u hu
  rw [addr_add] at this
  exact this
theorem below_drewOne {w : World} : Below w.heap.size w w.drew := ⟨rfl, rfl, rfl, Nat.le_refl _, fun _ _ => rfl⟩
theorem own_drewN {B e n : Nat} {w : World} {v : Value} {xs : List Value} (h : w.ownsRow B e 1 v n xs) (k : Nat) : (w.drewN k).ownsRow B e 1 v n xs := h
theorem own_block {w : World} {B e n : Nat} {v : Value} {xs : List Value} (h : w.ownsRow B e 1 v n xs) (hn : 0 < n) : ∃ g cap cur, v = .slice (some ⟨g, 0, none⟩) n cap ∧ B ≤ g ∧ w.heap[g]? = some (.cells cur e (0, 0)) := by
  rcases h.2 with ⟨_, h0⟩ | ⟨g, cap, cur, hv, hb, hg, _⟩
  · omega
  · exact ⟨g, cap, cur, hv, hb, hg⟩
/-- A block of a world. -/
def Has (W : World) (g : Nat) (o : Obj) : Prop := W.heap[g]? = some o
theorem has_new (W : World) (o : Obj) (g : Nat) (hg : g = W.heap.size) : Has (W.alloc o) g o := by subst hg; exact heap_alloc_new W o
theorem has_old {W : World} {o : Obj} {g : Nat} (h : Has W g o) (o' : Obj) : Has (W.alloc o') g o := (heap_alloc_old W o' (Array.getElem?_eq_some_iff.1 h).1).trans h
theorem has_drew {W : World} {o : Obj} {g : Nat} (h : Has W g o) : Has W.drew g o := h
theorem has_cell {W : World} {g : Nat} {cs : Array Value} {T : TypeId} (h : Has W g (.cells cs T (0, 0))) (j : Nat) : W.cell? ⟨g, j, none⟩ = cs[j]? := cell_of_row W g j cs T (0, 0) h
theorem has_free {W : World} {g : Nat} {cs : Array Value} {T : TypeId} (h : Has W g (.cells cs T (0, 0))) (j : Nat) : W.frozen? ⟨g, j, none⟩ = false := by
  unfold Has at h
  simp [World.frozen?, h]
theorem has_lt {W : World} {o : Obj} {g : Nat} (h : Has W g o) : g < W.heap.size := (Array.getElem?_eq_some_iff.1 h).1
theorem own_has {W : World} {B e n g : Nat} {z : Value} (h : Has W g (.cells (madeCells #[z] n) e)) (hb : B ≤ g) (hn : n ≤ 4096) : W.ownsRow B e 1 (.slice (some ⟨g, 0, none⟩) n n) n (List.replicate n z) := by
  refine ⟨by simp, .inr ⟨g, n, _, rfl, hb, h, Nat.le_refl _, by unfold maxLen; omega, by simp [size_madeCells], ?_⟩⟩
  rw [toList_madeCells_one]
  simp
theorem own_under {B e z n : Nat} {w w' : World} {v : Value} {xs : List Value} (h : w.ownsRow B e z v n xs) (hb : Below w.heap.size w w') : w'.ownsRow B e z v n xs :=
  World.ownsRow.kept (row := none) h ⟨hb.os, hb.tape, hb.output, hb.size, fun i hi _ => hb.block i hi⟩ (Classical.em _)
theorem own_keep {S : Nat → Prop} {B e z n : Nat} {w w' : World} {v : Value} {xs : List Value} (h : w.ownsRow B e z v n xs) (hk : Keeps S w w') (hn : ∀ b, v.ownBlock = some b → ¬ S b) : w'.ownsRow B e z v n xs := by
  refine ⟨h.1, h.2.imp id ?_⟩
  rintro ⟨g, cap, cur, rfl, hB, hg, hc⟩
  exact ⟨g, cap, cur, rfl, hB, (hk.block g (Array.getElem?_eq_some_iff.1 hg).1 (hn g rfl)).trans hg, hc⟩
theorem own_base2 {B B' e z n : Nat} {w : World} {v : Value} {xs : List Value} (h : w.ownsRow B e z v n xs) (hB : B' ≤ B) : w.ownsRow B' e z v n xs :=
  ⟨h.1, h.2.imp id (fun ⟨g, cap, cur, e, hb, r⟩ => ⟨g, cap, cur, e, Nat.le_trans hB hb, r⟩)⟩
theorem own_block2 {w : World} {B e z n : Nat} {v : Value} {xs : List Value} (h : w.ownsRow B e z v n xs) (hn : 0 < n) : ∃ g cap, v = .slice (some ⟨g, 0, none⟩) n cap ∧ n ≤ cap ∧ B ≤ g ∧ g < w.heap.size := by
  rcases h.2 with ⟨_, h0⟩ | ⟨g, cap, cur, hv, hb, hg, hc, _⟩
  · omega
  · exact ⟨g, cap, hv, hc, hb, (Array.getElem?_eq_some_iff.1 hg).1⟩
theorem own_small {B e z n : Nat} {w : World} {v : Value} {xs : List Value} (h : w.ownsRow B e z v n xs) : ∃ p cap, v = .slice p n cap ∧ n ≤ cap := by
  rcases h.2 with ⟨rfl, h2⟩ | ⟨g, cap, cur, rfl, _, _, hn, _⟩
  · exact ⟨none, 0, by rw [h2], by omega⟩
  · exact ⟨_, _, rfl, hn⟩
end Go.Proofs.YtlnamkplbikcjaaGreatDoor
