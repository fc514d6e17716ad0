/- Words for a row of memory known whole: stores of many cells into it, the zeroing of a part; nothing of the program; no condition. -/
import Derived.Test.YtlnamkplbikcjaaGreatDoorFQ
import Derived.Lib.SliceRun
namespace Go.Proofs.YtlnamkplbikcjaaGreatDoor
open Go.RowKit

/-- Block g is a row of the cells cur. -/
def Row (E : TypeId) (w : World) (g : Nat) (cur : List Value) : Prop := w.heap[g]? = some (.cells cur.toArray E (0, 0))
theorem Row.lt {E : TypeId} {w : World} {g : Nat} {cur : List Value} (h : Row E w g cur) : g < w.heap.size := (Array.getElem?_eq_some_iff.1 h).1
theorem Row.cell {E : TypeId} {w : World} {g : Nat} {cur : List Value} (h : Row E w g cur) (j : Nat) : w.cell? ⟨g, j, none⟩ = cur[j]? := by
  rw [cell_of_row _ _ _ _ _ _ h]; simp
theorem Row.free {E : TypeId} {w : World} {g : Nat} {cur : List Value} (h : Row E w g cur) (j : Nat) : w.frozen? ⟨g, j, none⟩ = false := frozen_of_row _ _ _ _ _ h
theorem Row.drew {E : TypeId} {w : World} {g : Nat} {cur : List Value} (h : Row E w g cur) : Row E w.drew g cur := h
/-- The list with some of its places laid anew. -/
def splice (cur : List Value) (o : Nat) (vs : List Value) : List Value := cur.take o ++ (vs ++ cur.drop (o + vs.length))
theorem splice_len {cur : List Value} {o : Nat} {vs : List Value} (h : o + vs.length ≤ cur.length) : (splice cur o vs).length = cur.length := by
  simp [splice]; omega
theorem splice_cons {cur : List Value} {o : Nat} {v : Value} {r : List Value} (h : o < cur.length) : splice (cur.set o v) (o + 1) r = splice cur o (v :: r) := by
  obtain ⟨a, x, b, rfl, rfl⟩ : ∃ a x b, cur = a ++ x :: b ∧ a.length = o :=
    ⟨cur.take o, cur[o], cur.drop (o + 1), by rw [← List.drop_eq_getElem_cons h, List.take_append_drop], by simp; omega⟩
  have e1 : ∀ (y : Value) (k : Nat), (a ++ y :: b).drop (a.length + (k + 1)) = b.drop k := fun y k => by
    rw [List.drop_append, List.drop_of_length_le (by omega), show a.length + (k + 1) - a.length = k + 1 from by omega]; simp
  have e2 : ∀ (y : Value), (a ++ y :: b).take a.length = a := fun y => by simp
  have e3 : ∀ (y : Value), (a ++ y :: b).take (a.length + 1) = a ++ [y] := fun y => by rw [List.take_append, List.take_of_length_le (by omega)]; simp
  have e4 : (a ++ x :: b).set a.length v = a ++ v :: b := by simp
  unfold splice
  rw [e4, e3, e2, List.length_cons, e1, show a.length + 1 + r.length = a.length + (r.length + 1) from by omega, e1]
  simp
theorem Row.setCells {E : TypeId} {g : Nat} : ∀ (vs : List Value) {w : World} {cur : List Value} (o : Nat), Row E w g cur → o + vs.length ≤ cur.length → Row E (w.setCells g o vs) g (splice cur o vs)
  | [], w, cur, o, h, _ => by simpa [World.setCells, splice] using h
  | v :: r, w, cur, o, h, hl => by
    have h1 : Row E (w.setCell ⟨g, o, none⟩ v) g (cur.set o v) := by
      unfold Row
      rw [heap_setCell_same _ _ _ _ _ _ h]
      simp
    have := Row.setCells r (o + 1) h1 (by simp at hl ⊢; omega)
    rw [splice_cons (by simp at hl; omega)] at this
    exact this
theorem setCells_keeps {S : Nat → Prop} {g : Nat} {w0 : World} : ∀ (vs : List Value) {w : World} (o : Nat), Keeps S w0 w → (S g ∨ w0.heap.size ≤ g) → Keeps S w0 (w.setCells g o vs)
  | [], _, _, h, _ => h
  | v :: r, _, o, h, hg => setCells_keeps r (o + 1) (h.setCell ⟨g, o, none⟩ v hg) hg
theorem own_of_row {E : TypeId} {z B n cap g : Nat} {w : World} {cur xs : List Value} (h : Row E w g cur) (hB : B ≤ g) (hn : n ≤ cap) (hc : cap ≤ maxLen) (hl : cur.length = cap * z) (hx : cur.take (n * z) = xs) :
    w.ownsRow B E z (.slice (some ⟨g, 0, none⟩) n cap) n xs :=
  ⟨by rw [← hx, List.length_take, hl, Nat.min_eq_left (Nat.mul_le_mul_right z hn)], .inr ⟨g, cap, cur.toArray, rfl, hB, h, hn, hc, by simpa using hl, by simpa using hx⟩⟩
theorem row_of_own {E : TypeId} {z B n cap g : Nat} {w : World} {xs : List Value} (h : w.ownsRow B E z (.slice (some ⟨g, 0, none⟩) n cap) n xs) :
    ∃ cur, Row E w g cur ∧ B ≤ g ∧ n ≤ cap ∧ cap ≤ maxLen ∧ cur.length = cap * z ∧ cur.take (n * z) = xs := by
  rcases h.2 with ⟨h, _⟩ | ⟨g', cap', cur, e, hb, hg, hn, hm, hs, ht⟩
  · cases h
  · cases e
    exact ⟨cur.toList, by simpa [Row] using hg, hb, hn, hm, by simpa using hs, ht⟩
theorem splice_take {cur : List Value} {o m : Nat} {vs : List Value} (h : m ≤ o) (ho : o ≤ cur.length) : (splice cur o vs).take m = cur.take m := by
  unfold splice
  rw [List.take_append_of_le_length (by simp; omega), List.take_take, Nat.min_eq_left h]
theorem splice_mid {cur : List Value} {o : Nat} {vs : List Value} (ho : o ≤ cur.length) : (splice cur o vs).take (o + vs.length) = cur.take o ++ vs := by
  unfold splice
  rw [← List.append_assoc]
  exact List.take_left' (by simp; omega)

/-- The zero cells of many elements. -/
def zeros (z : Array Value) (n : Nat) : List Value := (Builtin.zeroCells z n).toList
theorem zeros_len (z : Array Value) (n : Nat) : (zeros z n).length = n * z.size := by simp [zeros, Builtin.zeroCells]
theorem zeros_one {z : Array Value} (hz : ∀ v ∈ z, v.oneCell' = true) (n : Nat) : ∀ v ∈ zeros z n, v.oneCell' = true := by
  intro v hv
  simp only [zeros, Builtin.zeroCells, Array.toList_map, List.mem_map, Array.toList_range, List.mem_range] at hv
  obtain ⟨i, hi, rfl⟩ := hv
  have h0 : 0 < z.size := by
    rcases Nat.eq_zero_or_pos z.size with h | h
    · rw [h] at hi; omega
    · exact h
  have := Nat.mod_lt i h0
  rw [getElem!_pos z _ this]
  exact hz _ (Array.getElem_mem this)
/-- clear of a part of a row, its elements of any number of cells. -/
theorem run_clear_row {P : Program} (w : World) (t e ty : TypeId) (z : Value) (ht : P.underlying t = some (.slice e)) (hv : ∀ w, (zeroValue e).run P w = .ok z w) (h1 : ∀ v ∈ z.cells, v.oneCell' = true) {g : Nat} {cur : List Value} (h : Row e w g cur) (o n c : Nat) (hn : 0 < n)
    (hl : o + n * z.cells.size ≤ cur.length) :
    (Builtin.clear_ #[t] ty #[.slice (some ⟨g, o, none⟩) n c]).run P w = .ok (.tuple #[]) (w.setCells g o (zeros z.cells n)) := by
  have hst := run_storeCells_cells (P := P) g o (zeros z.cells n) 0 w
    (fun j hj => by rw [zeros_len] at hj; rw [h.cell, Nat.add_zero, List.getElem?_eq_getElem (by omega)]; rfl) (fun j _ => h.free _) (zeros_one h1 n)
  simp only [Nat.add_zero] at hst
  obtain ⟨m, rfl⟩ : ∃ m, n = m + 1 := ⟨n - 1, by omega⟩
  unfold zeros at hst ⊢
  simp [Builtin.clear_, run_underlying ht, hv, hst]
/-- One element less. -/
def Qu.drop (A : Qu) (i : Nat) : Qu := { A with l := A.l.eraseIdx i }
theorem Qu.Good.drop {k : Nat} {A : Qu} (h : A.Good k) (i : Nat) : (A.drop i).Good k := by
  have hsub : ∀ p, p ∈ A.l.eraseIdx i → p ∈ A.l := fun p hp => List.mem_of_mem_eraseIdx hp
  refine ⟨h.l0, h.l1, ?_, fun p hp => h.wd p (hsub p hp), h.z0, fun p hp => h.nums p (hsub p hp), ?_⟩
  · have := h.len
    have := List.length_eraseIdx_le A.l i
    simp [Qu.drop]; omega
  · simp only [Qu.drop]
    exact (List.Sublist.map _ (List.eraseIdx_sublist ..)).nodup h.nd
/-- Another slice is laid in the queue's cell. -/
theorem PQ.relaid {T E : TypeId} {k B : Nat} {w w1 : World} {A : Qu} {b : Nat} {s s' : Value} {l' : List (Value × Int)} (h : PQ T E k B w A b s) (hk : Keeps (fun x => s.ownBlock = some x) w w1)
    (hown : w1.ownsRow B E (k + 1) s' l'.length (flat l')) (hs : s'.ownBlock = s.ownBlock) :
    PQ T E k B (w1.setCell ⟨b, 1, none⟩ s') { A with l := l' } b s' := by
  have hb := (hk.block b h.lt (fun e => h.ne e)).trans h.blk
  refine ⟨by rw [heap_setCell_same _ _ _ _ _ _ hb]; rfl, ownsRow_setCell_other hown (a := ⟨b, 1, none⟩) (by rw [hs]; exact h.ne) _, h.hb, by rw [hs]; exact h.ne⟩
theorem PQ.relaid_cell {T E : TypeId} {k B : Nat} {w w1 : World} {A : Qu} {b : Nat} {s : Value} (h : PQ T E k B w A b s) (hk : Keeps (fun x => s.ownBlock = some x) w w1) : w1.cell? ⟨b, 1, none⟩ = some s ∧ w1.frozen? ⟨b, 1, none⟩ = false := by
  have hb := (hk.block b h.lt (fun e => h.ne e)).trans h.blk
  exact ⟨by rw [cell_of_row _ _ _ _ _ _ hb]; rfl, frozen_of_row _ _ _ _ _ hb⟩
/-- Two results, whatever became of the world. -/
def Gives2 (R : World → Prop) (x y : Value) (e : Ending) (w' : World) : Prop := e = .returned (.tuple #[x, y]) ∧ R w'
theorem own_slice {w : World} {B e z n : Nat} {v : Value} {xs : List Value} (h : w.ownsRow B e z v n xs) : ∃ p cap, v = .slice p n cap := by
  rcases h.2 with ⟨rfl, h0⟩ | ⟨g, cap, cur, rfl, _⟩
  · exact ⟨_, _, by rw [h0]⟩
  · exact ⟨_, _, rfl⟩
/-- What a queue's own blocks alone turned leaves what lay below. -/
theorem PQ.under {T E : TypeId} {k B : Nat} {w w1 : World} {A : Qu} {b : Nat} {s : Value} (h : PQ T E k B w A b s) (hk : Keeps (fun x => x = b ∨ s.ownBlock = some x) w w1) : Below B w w1 :=
  hk.below (Nat.le_of_lt (Nat.lt_of_le_of_lt h.hb h.lt)) (fun x hx => by
    rcases hx with rfl | e
    · exact h.hb
    · exact (h.own.lt x e).1)
end Go.Proofs.YtlnamkplbikcjaaGreatDoor
