/- Words for memory of stage 3: a slice that reads as a list of cells, apart from some blocks; what stays where only some blocks turn; nothing of the program; no condition. -/
import Derived.Below
import Derived.Laws.OwnMore
import Derived.Laws.AppendOwn
import Derived.Maps.AppendAt
import Derived.Deep.Draws
import Derived.WalkKit
import Derived.Lib.Hide
namespace Go.Proofs.YtlnamkplbikcjaaGreatDoor
open Go.RowKit

/-- What lay below reads as it did. -/
theorem bcell {W w1 : World} (hb : Below W.heap.size W w1) : (∀ b o, b < W.heap.size → w1.cell? ⟨b, o, none⟩ = W.cell? ⟨b, o, none⟩) ∧ (∀ b o, b < W.heap.size → w1.frozen? ⟨b, o, none⟩ = W.frozen? ⟨b, o, none⟩) :=
  ⟨fun b o h => hb.cell (p := ⟨b, o, none⟩) h, fun b o h => hb.frozen (p := ⟨b, o, none⟩) h⟩
theorem bnext {w a b : World} (h : Below w.heap.size w a) (k : Below a.heap.size a b) : Below w.heap.size w b := h.trans (k.mono h.size)
theorem below_drewN {B : Nat} {a w : World} (h : Below B a w) (n : Nat) : Below B a (w.drewN n) := ⟨h.os, h.tape, h.output, h.size, h.block⟩
theorem cell_lt {w : World} {a : Addr} {v : Value} (h : w.cell? a = some v) : a.block < w.heap.size := by
  rcases Nat.lt_or_ge a.block w.heap.size with h' | h'
  · exact h'
  · simp [World.cell?, Array.getElem?_eq_none h'] at h
theorem ret_bool {a b : Bool} (h : a = b) : Ending.returned (.bool a) = .returned (.bool b) := by rw [h]
theorem ret_int {a b : Int} (h : a = b) : Ending.returned (.int .i64 a) = .returned (.int .i64 b) := by rw [h]

/-- Only the blocks of S, and new ones, have turned. -/
structure Keeps (S : Nat → Prop) (w w' : World) : Prop where
  os : w'.os = w.os
  tape : w'.tape = w.tape
  output : w'.output = w.output
  size : w.heap.size ≤ w'.heap.size
  block : ∀ b, b < w.heap.size → ¬ S b → w'.heap[b]? = w.heap[b]?
theorem Keeps.refl (S : Nat → Prop) (w : World) : Keeps S w w := ⟨rfl, rfl, rfl, Nat.le_refl _, fun _ _ _ => rfl⟩
theorem Keeps.trans {S : Nat → Prop} {a b c : World} (h : Keeps S a b) (k : Keeps S b c) : Keeps S a c :=
  ⟨k.os.trans h.os, k.tape.trans h.tape, k.output.trans h.output, Nat.le_trans h.size k.size, fun x hx hn => (k.block x (Nat.lt_of_lt_of_le hx h.size) hn).trans (h.block x hx hn)⟩
theorem Keeps.of_below {S : Nat → Prop} {w w' : World} (h : Below w.heap.size w w') : Keeps S w w' := ⟨h.os, h.tape, h.output, h.size, fun b hb _ => h.block b hb⟩
theorem Keeps.below {S : Nat → Prop} {B : Nat} {w w' : World} (h : Keeps S w w') (hB : B ≤ w.heap.size) (hS : ∀ b, S b → B ≤ b) : Below B w w' :=
  ⟨h.os, h.tape, h.output, h.size, fun b hb => h.block b (Nat.lt_of_lt_of_le hb hB) fun k => by have := hS b k; omega⟩
theorem Keeps.mono {S T : Nat → Prop} {w w' : World} (h : Keeps S w w') (hS : ∀ b, S b → T b) : Keeps T w w' := ⟨h.os, h.tape, h.output, h.size, fun b hb hn => h.block b hb fun k => hn (hS b k)⟩
theorem Keeps.cell {S : Nat → Prop} {w w' : World} (h : Keeps S w w') {p : Addr} (hp : p.block < w.heap.size) (hn : ¬ S p.block) : w'.cell? p = w.cell? p := World.cell?_of_block (w := w) (h.block p.block hp hn)

/-- A slice that reads as the cells xs; their blocks are none of S. -/
def Lst (S : Nat → Prop) (w : World) (v : Value) (xs : List Value) : Prop :=
  ∃ p cap, v = .slice p xs.length cap ∧ xs.length ≤ 9223372036854775807 ∧ ∀ j x, xs[j]? = some x → ∃ b off, p = some ⟨b, off, none⟩ ∧ ¬ S b ∧ w.cell? ⟨b, off + j, none⟩ = some x
theorem Lst.nil (S : Nat → Prop) (w : World) : Lst S w (.slice none 0 0) [] := ⟨none, 0, rfl, by simp, fun j x hx => by simp at hx⟩
theorem Lst.keeps {S : Nat → Prop} {w w' : World} {v : Value} {xs : List Value} (h : Lst S w v xs) (hk : Keeps S w w') : Lst S w' v xs := by
  obtain ⟨p, cap, e, hl, hc⟩ := h
  refine ⟨p, cap, e, hl, fun j x hx => ?_⟩
  obtain ⟨b, off, e2, hn, hcell⟩ := hc j x hx
  exact ⟨b, off, e2, hn, (hk.cell (cell_lt hcell) hn).trans hcell⟩
theorem Lst.below {S : Nat → Prop} {w w' : World} {v : Value} {xs : List Value} (h : Lst S w v xs) (hb : Below w.heap.size w w') : Lst S w' v xs := h.keeps (Keeps.of_below hb)
theorem Lst.mono {S T : Nat → Prop} {w : World} {v : Value} {xs : List Value} (h : Lst S w v xs) (hS : ∀ b, b < w.heap.size → T b → S b) : Lst T w v xs := by
  obtain ⟨p, cap, e, hl, hc⟩ := h
  refine ⟨p, cap, e, hl, fun j x hx => ?_⟩
  obtain ⟨b, off, e2, hn, hcell⟩ := hc j x hx
  exact ⟨b, off, e2, fun k => hn (hS b (cell_lt hcell) k), hcell⟩
theorem addr_add (g j : Nat) : (⟨g, 0, none⟩ : Addr).add j = ⟨g, 0 + j, none⟩ := by
  unfold Addr.add
  split
  · next h => subst h; rfl
  · rfl
/-- A row of the call's own reads as its cells. -/
theorem Lst.of_own {S : Nat → Prop} {w : World} {base e n : Nat} {v : Value} {xs : List Value} (h : w.ownsRow base e 1 v n xs) (hn : xs.length = n) (hl : n ≤ 9223372036854775807) (hS : ∀ b, base ≤ b → b < w.heap.size → ¬ S b) : Lst S w v xs := by
  have h' := h
  obtain ⟨h1, h2⟩ := h
  rcases h2 with ⟨rfl, h2⟩ | ⟨g, cap, cur, rfl, hg, _⟩
  · have hx : xs = [] := by
      first
        | exact h2
        | exact List.eq_nil_of_length_eq_zero (by omega)
    subst hx
    exact Lst.nil S w
  · refine ⟨_, cap, by rw [hn], by omega, fun j x hx => ?_⟩
    have hc := World.ownsRow.cells h' rfl j x hx
    rw [addr_add] at hc
    exact ⟨g, 0, rfl, hS g hg (cell_lt hc), hc⟩

def ints (l : List Int) : List Value := l.map fun z => .int .i64 z
def bools (l : List Bool) : List Value := l.map fun z => .bool z
theorem ints_len (l : List Int) : (ints l).length = l.length := by simp [ints]
theorem bools_len (l : List Bool) : (bools l).length = l.length := by simp [bools]
theorem ints_at {l : List Int} {j : Nat} (h : j < l.length) : (ints l)[j]? = some (.int .i64 (l.getD j 0)) := by simp [ints, List.getD_eq_getElem?_getD, h]
theorem bools_at {l : List Bool} {j : Nat} (h : j < l.length) : (bools l)[j]? = some (.bool (l.getD j false)) := by simp [bools, List.getD_eq_getElem?_getD, h]
theorem ints_snoc (l : List Int) (z : Int) : ints l ++ [.int .i64 z] = ints (l ++ [z]) := by simp [ints]
theorem ints_one {l : List Int} : ∀ u ∈ ints l, u.oneCell' = true := by
  intro u hu; unfold ints at hu; obtain ⟨x, _, rfl⟩ := List.mem_map.1 hu; rfl
theorem bools_one {l : List Bool} : ∀ u ∈ bools l, u.oneCell' = true := by
  intro u hu; unfold bools at hu; obtain ⟨x, _, rfl⟩ := List.mem_map.1 hu; rfl
theorem news_one (w : World) (v : Value) (t : TypeId) : ∀ (j : Nat) x, [v][j]? = some x → (w.alloc (.cells #[v] t)).cell? ((⟨w.heap.size, 0, none⟩ : Addr).add j) = some x := by
  intro j x hj
  match j, hj with
  | 0, hj => simp at hj; subst hj; simp [Addr.add]
theorem own_shape {E base : Nat} {w : World} {v : Value} {n : Nat} {xs : List Value} (h : w.ownsRow base E 1 v n xs) (hn : xs.length = n) : ∃ p cap, v = .slice p n cap := by
  obtain ⟨h1, h2⟩ := h
  rcases h2 with ⟨rfl, h2⟩ | ⟨g, cap, cur, hv, _⟩
  · have hx : xs = [] := by
      first
        | exact h2
        | exact List.eq_nil_of_length_eq_zero (by omega)
    subst hx; simp at hn; subst hn; exact ⟨_, _, rfl⟩
  · exact ⟨_, cap, hv⟩
theorem own_below {E base : Nat} {w w' : World} {v : Value} {n : Nat} {xs : List Value} (h : w.ownsRow base E 1 v n xs) (hb : Below w.heap.size w w') : w'.ownsRow base E 1 v n xs :=
  World.ownsRow.kept (row := none) h ⟨hb.os, hb.tape, hb.output, hb.size, fun i hi _ => hb.block i hi⟩ (Classical.em _)
end Go.Proofs.YtlnamkplbikcjaaGreatDoor
