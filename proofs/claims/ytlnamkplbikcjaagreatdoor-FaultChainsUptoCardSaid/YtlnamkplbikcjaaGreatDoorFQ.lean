/- A queue as it lies in memory: one block of three cells, one row of elements with their numbers; plain words on lists; nothing of the program is walked here; no condition. -/
import Derived.Test.YtlnamkplbikcjaaGreatDoorSMem
import Derived.OneCell
import Derived.Laws.IdiomCopy
import Derived.Deep.AppendLies
namespace Go.Proofs.YtlnamkplbikcjaaGreatDoor
open Go.RowKit

/-- A queue: its limit, its elements with their numbers, the last number. -/
structure Qu where
  limit : Int
  l : List (Value × Int)
  last : Int

/-- The cells of an element. -/
def cellsOf : Value → List Value
  | .agg xs => xs.toList
  | v => [v]
def flat : List (Value × Int) → List Value
  | [] => []
  | p :: r => cellsOf p.1 ++ (.int .i64 p.2 :: flat r)
def Wide (k : Nat) (l : List (Value × Int)) : Prop := ∀ p ∈ l, (cellsOf p.1).length = k ∧ ∀ u ∈ cellsOf p.1, u.oneCell' = true

theorem flat_append (a b : List (Value × Int)) : flat (a ++ b) = flat a ++ flat b := by
  induction a with
  | nil => rfl
  | cons p r ih => simp [flat, ih]
theorem flat_one (v : Value) (n : Int) : flat [(v, n)] = cellsOf v ++ [.int .i64 n] := by simp [flat]
theorem Wide.tail {k : Nat} {p : Value × Int} {r : List (Value × Int)} (h : Wide k (p :: r)) : Wide k r := fun q hq => h q (List.mem_cons_of_mem _ hq)
theorem flat_len {k : Nat} : ∀ {l : List (Value × Int)}, Wide k l → (flat l).length = l.length * (k + 1)
  | [], _ => by simp [flat]
  | p :: r, h => by
    have h1 := (h p (by simp)).1
    have h2 := flat_len h.tail
    simp [flat, h1, h2, Nat.add_mul]
    omega
theorem flat_cells {k : Nat} : ∀ {l : List (Value × Int)}, Wide k l → ∀ {i : Nat} (hi : i < l.length) (j : Nat), j < k → (flat l)[i * (k + 1) + j]? = (cellsOf l[i].1)[j]?
  | p :: r, h, 0, _, j, hj => by
    have h1 := (h p (by simp)).1
    simp only [flat, Nat.zero_mul, Nat.zero_add, List.getElem_cons_zero]
    rw [List.getElem?_append_left (by omega)]
  | p :: r, h, i + 1, hi, j, hj => by
    have h1 := (h p (by simp)).1
    have ih := flat_cells h.tail (i := i) (by simpa using hi) j hj
    simp only [flat, List.getElem_cons_succ]
    rw [List.getElem?_append_right (by rw [h1, Nat.add_mul]; omega), h1, ← ih, Nat.add_mul,
      show i * (k + 1) + 1 * (k + 1) + j - k = (i * (k + 1) + j) + 1 from by omega, List.getElem?_cons_succ]
theorem flat_num {k : Nat} : ∀ {l : List (Value × Int)}, Wide k l → ∀ {i : Nat} (hi : i < l.length), (flat l)[i * (k + 1) + k]? = some (.int .i64 l[i].2)
  | p :: r, h, 0, _ => by
    have h1 := (h p (by simp)).1
    simp only [flat, Nat.zero_mul, Nat.zero_add, List.getElem_cons_zero]
    rw [List.getElem?_append_right (by omega), h1]
    simp
  | p :: r, h, i + 1, hi => by
    have h1 := (h p (by simp)).1
    have ih := flat_num h.tail (i := i) (by simpa using hi)
    simp only [flat, List.getElem_cons_succ]
    rw [List.getElem?_append_right (by rw [h1, Nat.add_mul]; omega), h1, ← ih, Nat.add_mul,
      show i * (k + 1) + 1 * (k + 1) + k - k = (i * (k + 1) + k) + 1 from by omega, List.getElem?_cons_succ]
theorem flat_one_cell {k : Nat} : ∀ {l : List (Value × Int)}, Wide k l → ∀ u ∈ flat l, u.oneCell' = true
  | [], _, u, hu => by simp [flat] at hu
  | p :: r, h, u, hu => by
    simp only [flat, List.mem_append, List.mem_cons] at hu
    rcases hu with hu | rfl | hu
    · exact (h p (by simp)).2 u hu
    · rfl
    · exact flat_one_cell h.tail u hu
theorem flat_take {k : Nat} : ∀ {l : List (Value × Int)}, Wide k l → ∀ (i : Nat), (flat l).take (i * (k + 1)) = flat (l.take i)
  | [], _, i => by simp [flat]
  | p :: r, h, 0 => by simp [flat]
  | p :: r, h, i + 1 => by
    have h1 := (h p (by simp)).1
    have ih := flat_take h.tail i
    simp only [flat, List.take_succ_cons]
    rw [List.take_append, List.take_of_length_le (by rw [h1, Nat.add_mul]; omega), h1, Nat.add_mul,
      show i * (k + 1) + 1 * (k + 1) - k = i * (k + 1) + 1 from by omega, List.take_succ_cons, ih]
theorem flat_drop {k : Nat} : ∀ {l : List (Value × Int)}, Wide k l → ∀ (i : Nat), (flat l).drop (i * (k + 1)) = flat (l.drop i)
  | [], _, i => by simp [flat]
  | p :: r, h, 0 => by simp [flat]
  | p :: r, h, i + 1 => by
    have h1 := (h p (by simp)).1
    have ih := flat_drop h.tail i
    simp only [flat, List.drop_succ_cons]
    rw [List.drop_append, List.drop_of_length_le (by rw [h1, Nat.add_mul]; omega), h1, Nat.add_mul,
      show i * (k + 1) + 1 * (k + 1) - k = i * (k + 1) + 1 from by omega, List.drop_succ_cons, ih, List.nil_append]

/-- What every queue is that New has made (and the one that it has not made). -/
structure Qu.Good (k : Nat) (A : Qu) : Prop where
  l0 : 0 ≤ A.limit
  l1 : A.limit ≤ 4096
  len : (A.l.length : Int) ≤ A.limit
  wd : Wide k A.l
  z0 : 0 ≤ A.last
  nums : ∀ p ∈ A.l, 1 ≤ p.2 ∧ p.2 ≤ A.last
  nd : (A.l.map (·.2)).Nodup
theorem Qu.Good.n4 {k : Nat} {A : Qu} (h : A.Good k) : A.l.length ≤ 4096 := by have := h.len; have := h.l1; omega

/-- The queue in a world. -/
structure PQ (T E : TypeId) (k B : Nat) (w : World) (A : Qu) (b : Nat) (s : Value) : Prop where
  blk : w.heap[b]? = some (.cells #[.int .i64 A.limit, s, .int .i64 A.last] T (0, 0))
  own : w.ownsRow B E (k + 1) s A.l.length (flat A.l)
  hb : B ≤ b
  ne : s.ownBlock ≠ some b
/-- The same, its blocks S, the pointer v. -/
def Queue (T E : TypeId) (k : Nat) (S : Nat → Prop) (B : Nat) (w : World) (A : Qu) (v : Value) : Prop :=
  ∃ b s, v = .pointer (some ⟨b, 0, none⟩) ∧ PQ T E k B w A b s ∧ ∀ x, S x ↔ x = b ∨ s.ownBlock = some x

section
variable {T E : TypeId} {k B : Nat} {w : World} {A : Qu} {b : Nat} {s : Value}
theorem PQ.f0 (h : PQ T E k B w A b s) : w.cell? ⟨b, 0, none⟩ = some (.int .i64 A.limit) := by rw [cell_of_row _ _ _ _ _ _ h.blk]; rfl
theorem PQ.f1 (h : PQ T E k B w A b s) : w.cell? ⟨b, 1, none⟩ = some s := by rw [cell_of_row _ _ _ _ _ _ h.blk]; rfl
theorem PQ.f2 (h : PQ T E k B w A b s) : w.cell? ⟨b, 2, none⟩ = some (.int .i64 A.last) := by rw [cell_of_row _ _ _ _ _ _ h.blk]; rfl
theorem PQ.fz (h : PQ T E k B w A b s) (j : Nat) : w.frozen? ⟨b, j, none⟩ = false := frozen_of_row _ _ _ _ _ h.blk
theorem PQ.lt (h : PQ T E k B w A b s) : b < w.heap.size := lt_of_block h.blk
/-- The slice's form. -/
theorem PQ.shape (h : PQ T E k B w A b s) : ∃ p cap, s = .slice p A.l.length cap := by
  rcases h.own.2 with ⟨rfl, h2⟩ | ⟨g, cap, cur, rfl, _⟩
  · exact ⟨_, _, by rw [h2]⟩
  · exact ⟨_, _, rfl⟩
theorem PQ.form (h : PQ T E k B w A b s) (hn : 0 < A.l.length) : ∃ g cap, s = .slice (some ⟨g, 0, none⟩) A.l.length cap ∧ B ≤ g ∧ g < w.heap.size ∧ g ≠ b := by
  obtain ⟨g, cap, rfl, hb, hg⟩ := h.own.form hn
  exact ⟨g, cap, rfl, hb, hg, fun e => h.ne (by simp [Value.ownBlock, e])⟩
theorem PQ.kept {w' : World} {row : Option Nat} (h : PQ T E k B w A b s) (hg : w.grownBy w' row) (h0 : some b ≠ row) (h1 : s.ownBlock = none ∨ s.ownBlock ≠ row) : PQ T E k B w' A b s :=
  ⟨(hg.block b h.lt h0).trans h.blk, h.own.kept hg h1, h.hb, h.ne⟩
end
theorem Queue.lt {T E : TypeId} {k B : Nat} {w : World} {A : Qu} {S : Nat → Prop} {v : Value} (h : Queue T E k S B w A v) : ∀ x, S x → B ≤ x ∧ x < w.heap.size := by
  obtain ⟨b, s, rfl, h, hS⟩ := h
  intro x hx
  rcases (hS x).1 hx with rfl | e
  · exact ⟨h.hb, h.lt⟩
  · exact h.own.lt x e

/-- Is there an element at a place. -/
def hasB (A : Qu) (i : Int) : Bool := decide (0 ≤ i ∧ i < A.l.length)
theorem hasB_iff {A : Qu} {i : Int} : hasB A i = true ↔ 0 ≤ i ∧ i < A.l.length := by simp [hasB]

/-- The element at a place, one cell. -/
theorem PQ.elem1 {T E : TypeId} {B : Nat} {w : World} {A : Qu} {b : Nat} {s : Value} (h : PQ T E 1 B w A b s) (hA : A.Good 1) {g cap : Nat} (hs : s = .slice (some ⟨g, 0, none⟩) A.l.length cap) {i : Nat} (hi : i < A.l.length) {v : Value} (hv : A.l[i].1 = v) (hc : cellsOf v = [v]) :
    w.cell? ⟨g, i * 2, none⟩ = some v ∧ w.cell? ⟨g, i * 2 + 1, none⟩ = some (.int .i64 A.l[i].2) := by
  have ho := h.own
  subst hs
  have e1 := ho.cellAt (i * 2) (by omega)
  have e2 := ho.cellAt (i * 2 + 1) (by omega)
  have f1 := flat_cells hA.wd hi 0 (by omega)
  have f2 := flat_num hA.wd hi
  rw [hv, hc] at f1
  exact ⟨e1.trans f1, e2.trans f2⟩

/-- The number goes on. -/
def Qu.next (A : Qu) : Qu := { A with last := A.last + 1 }
theorem PQ.next {T E : TypeId} {k B : Nat} {w : World} {A : Qu} {b : Nat} {s : Value} (h : PQ T E k B w A b s) : PQ T E k B (w.setCell ⟨b, 2, none⟩ (.int .i64 (A.last + 1))) A.next b s :=
  ⟨by rw [heap_setCell_same _ _ _ _ _ _ h.blk]; rfl, ownsRow_setCell_other h.own h.ne _, h.hb, h.ne⟩
theorem PQ.alloc {T E : TypeId} {k B : Nat} {w : World} {A : Qu} {b : Nat} {s : Value} (h : PQ T E k B w A b s) (o : Obj) : PQ T E k B (w.alloc o) A b s := h.kept (World.grownBy_alloc w o none) (by simp) (by cases s.ownBlock <;> simp)
theorem PQ.drew {T E : TypeId} {k B : Nat} {w : World} {A : Qu} {b : Nat} {s : Value} (h : PQ T E k B w A b s) : PQ T E k B w.drew A b s := ⟨h.blk, h.own, h.hb, h.ne⟩
/-- One more element. -/
def Qu.push (A : Qu) (v : Value) : Qu := { limit := A.limit, l := A.l ++ [(v, A.last + 1)], last := A.last + 1 }
/-- The pointer's own cells behind an append. -/
theorem PQ.grown1 {T E : TypeId} {k B : Nat} {w w3 : World} {A : Qu} {b : Nat} {s : Value} {o : Obj} (h : PQ T E k B w A b s) (hg : (w.alloc o).grownBy w3 s.ownBlock) : w3.cell? ⟨b, 1, none⟩ = some s ∧ w3.frozen? ⟨b, 1, none⟩ = false := by
  have hb := (hg.block b (by simpa using Nat.lt_succ_of_lt h.lt) (fun e => h.ne e.symm)).trans (h.alloc o).blk
  exact ⟨by rw [cell_of_row _ _ _ _ _ _ hb]; rfl, frozen_of_row _ _ _ _ _ hb⟩
theorem PQ.pushed {T E : TypeId} {k B : Nat} {w w3 : World} {A : Qu} {b : Nat} {s : Value} {o : Obj} {v : Value} {g cap : Nat} (h : PQ T E k B w A.next b s) (hg : (w.alloc o).grownBy w3 s.ownBlock)
    (hown : w3.ownsRow B E (k + 1) (.slice (some ⟨g, 0, none⟩) (A.l.length + 1) cap) (A.l.length + 1) (flat A.l ++ (cellsOf v ++ [.int .i64 (A.last + 1)]))) (hat : s.ownBlock = some g ∨ g = (w.alloc o).heap.size) :
    PQ T E k B (w3.setCell ⟨b, 1, none⟩ (.slice (some ⟨g, 0, none⟩) (A.l.length + 1) cap)) (A.push v) b (.slice (some ⟨g, 0, none⟩) (A.l.length + 1) cap) := by
  have hb := (hg.block b (by simpa using Nat.lt_succ_of_lt h.lt) (fun e => h.ne e.symm)).trans (h.alloc o).blk
  have hgb : g ≠ b := by
    rintro rfl
    rcases hat with e | e
    · exact h.ne e
    · have := h.lt; simp at e; omega
  have hne : (Value.slice (some ⟨g, 0, none⟩) (A.l.length + 1) cap).ownBlock ≠ some b := by simpa [Value.ownBlock] using hgb
  refine ⟨?_, ?_, h.hb, hne⟩
  · rw [heap_setCell_same _ _ _ _ _ _ hb]; rfl
  · have := ownsRow_setCell_other hown (a := ⟨b, 1, none⟩) hne (.slice (some ⟨g, 0, none⟩) (A.l.length + 1) cap)
    simpa [Qu.push, flat_append, flat_one] using this
theorem PQ.new {T E : TypeId} {k B : Nat} {w : World} (hB : B ≤ w.heap.size) (limit : Int) : PQ T E k B (w.alloc (.cells #[.int .i64 limit, .slice none 0 0, .int .i64 0] T)) ⟨limit, [], 0⟩ w.heap.size (.slice none 0 0) :=
  ⟨heap_alloc_new w _, World.ownsRow_nil _ _ _ _, hB, by simp [Value.ownBlock]⟩
theorem good_new {k : Nat} {limit : Int} (h0 : 0 ≤ limit) (h1 : limit ≤ 4096) : Qu.Good k ⟨limit, [], 0⟩ :=
  ⟨h0, h1, by simpa using h0, fun p hp => by simp at hp, Int.le_refl _, fun p hp => by simp at hp, by simp⟩

theorem Keeps.drew {S : Nat → Prop} {w w' : World} (h : Keeps S w w') : Keeps S w w'.drew := ⟨h.os, h.tape, h.output, h.size, h.block⟩
theorem Keeps.drewN {S : Nat → Prop} {w w' : World} (h : Keeps S w w') (n : Nat) : Keeps S w (w'.drewN n) := ⟨h.os, h.tape, h.output, h.size, h.block⟩
theorem Keeps.setCell {S : Nat → Prop} {w w' : World} (h : Keeps S w w') (p : Addr) (u : Value) (hp : S p.block ∨ w.heap.size ≤ p.block) : Keeps S w (w'.setCell p u) :=
  ⟨h.os, h.tape, h.output, by simpa [World.setCell] using h.size, fun b hb hn => (Below.heap_setCell w' p u b (fun e => by subst e; rcases hp with hp | hp; exact hn hp; omega)).trans (h.block b hb hn)⟩
theorem Keeps.alloc {S : Nat → Prop} {w w' : World} (h : Keeps S w w') (o : Obj) : Keeps S w (w'.alloc o) :=
  h.trans ⟨rfl, rfl, rfl, by simp, fun b hb _ => heap_alloc_old w' o hb⟩
theorem Keeps.grown {S : Nat → Prop} {w w1 w2 : World} {r : Option Nat} (h : Keeps S w w1) (g : w1.grownBy w2 r) (hr : ∀ k, r = some k → S k ∨ w.heap.size ≤ k) : Keeps S w w2 :=
  ⟨g.os.trans h.os, g.tape.trans h.tape, g.output.trans h.output, Nat.le_trans h.size g.size, fun b hb hn => (g.block b (Nat.lt_of_lt_of_le hb h.size) (fun e => by rcases hr b e.symm with k | k; exact hn k; omega)).trans (h.block b hb hn)⟩
theorem own_keeps {S : Nat → Prop} {w w' : World} {B e n z : Nat} {v : Value} {xs : List Value} (h : w.ownsRow B e z v n xs) (hk : Keeps S w w') (hn : ∀ g, v.ownBlock = some g → ¬ S g) : w'.ownsRow B e z v n xs := by
  refine ⟨h.1, ?_⟩
  rcases h.2 with h2 | ⟨g, cap, cur, rfl, hb, hgg, rest⟩
  · exact .inl h2
  · refine .inr ⟨g, cap, cur, rfl, hb, ?_, rest⟩
    rw [hk.block g (Array.getElem?_eq_some_iff.1 hgg).1 (hn g rfl)]
    exact hgg
theorem PQ.keeps {T E : TypeId} {k B : Nat} {w w' : World} {A : Qu} {b : Nat} {s : Value} {S : Nat → Prop} (h : PQ T E k B w A b s) (hk : Keeps S w w') (h0 : ¬ S b) (h1 : ∀ g, s.ownBlock = some g → ¬ S g) : PQ T E k B w' A b s :=
  ⟨(hk.block b h.lt h0).trans h.blk, own_keeps h.own hk h1, h.hb, h.ne⟩
theorem PQ.below {T E : TypeId} {k B : Nat} {w w' : World} {A : Qu} {b : Nat} {s : Value} (h : PQ T E k B w A b s) (hk : Below w.heap.size w w') : PQ T E k B w' A b s :=
  h.keeps (S := fun _ => False) (Keeps.of_below hk) (fun k => k) (fun _ _ k => k)
theorem Queue.keeps {T E : TypeId} {k B : Nat} {w w' : World} {A : Qu} {S R : Nat → Prop} {v : Value} (h : Queue T E k S B w A v) (hk : Keeps R w w') (hd : ∀ x, S x → ¬ R x) : Queue T E k S B w' A v := by
  obtain ⟨b, s, rfl, h, hS⟩ := h
  exact ⟨b, s, rfl, h.keeps hk (hd b ((hS b).2 (.inl rfl))) (fun g e => hd g ((hS g).2 (.inr e))), hS⟩
theorem Queue.below {T E : TypeId} {k B : Nat} {w w' : World} {A : Qu} {S : Nat → Prop} {v : Value} (h : Queue T E k S B w A v) (hk : Below w.heap.size w w') : Queue T E k S B w' A v :=
  h.keeps (R := fun _ => False) (Keeps.of_below hk) (fun _ _ k => k)

/-- What the program's errors are. -/
def errV (n : Int) : Value := if n = 0 then .nilIface else .iface 39 (.int .i64 n)
theorem errV_0 : errV 0 = .nilIface := rfl
theorem errV_ne {n : Int} (h : n ≠ 0) : errV n = .iface 39 (.int .i64 n) := if_neg h
end Go.Proofs.YtlnamkplbikcjaaGreatDoor
