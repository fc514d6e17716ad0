/- Slices of numbers that read as functions of the place; rows of the call's own of such; nothing of the program is walked; no condition. -/
import Derived.Test.YtdbfjcdglcagaaaNKeep
import Derived.OwnWalk
namespace Go.Proofs.Ytdbfjcdglcagaaa
open Go.RowKit

/-- A slice of n numbers. -/
def Nums (w : World) (v : Value) (n : Nat) (f : Nat → Int) : Prop := ∃ p cap, v = .slice p n cap ∧ n ≤ 9223372036854775807 ∧ ∀ j, j < n → ∃ b off, p = some ⟨b, off, none⟩ ∧ w.cell? ⟨b, off + j, none⟩ = some (.int .i64 (f j))
theorem Nums.below {w w' : World} {v : Value} {n : Nat} {f : Nat → Int} (h : Nums w v n f) (hb : Below w.heap.size w w') : Nums w' v n f := by
  obtain ⟨p, cap, e, hm, hc⟩ := h
  refine ⟨p, cap, e, hm, fun j hj => ?_⟩
  obtain ⟨b, off, e2, c⟩ := hc j hj
  exact ⟨b, off, e2, (hb.cell (p := ⟨b, off + j, none⟩) (cell_lt c)).trans c⟩
theorem Nums.congr {w : World} {v : Value} {n : Nat} {f g : Nat → Int} (h : Nums w v n f) (e : ∀ j, j < n → f j = g j) : Nums w v n g := by
  obtain ⟨p, cap, e1, hm, hc⟩ := h
  refine ⟨p, cap, e1, hm, fun j hj => ?_⟩
  obtain ⟨b, off, e2, c⟩ := hc j hj
  exact ⟨b, off, e2, by rw [c, e j hj]⟩
/-- A row of cells told by their places. -/
def lst (g : Nat → Value) (n : Nat) : List Value := (List.range n).map g
theorem lst_len (g : Nat → Value) (n : Nat) : (lst g n).length = n := by simp [lst]
theorem lst_at {g : Nat → Value} {n i : Nat} (h : i < n) : (lst g n)[i]? = some (g i) := by simp [lst, h]
theorem lst_get {g : Nat → Value} {n i : Nat} (h : i < (lst g n).length) : (lst g n)[i] = g i := by simp [lst]
theorem lst_congr {g h : Nat → Value} {n : Nat} (e : ∀ i, i < n → g i = h i) : lst g n = lst h n := by
  apply List.ext_getElem?
  intro i
  by_cases hi : i < n
  · rw [lst_at hi, lst_at hi, e i hi]
  · rw [List.getElem?_eq_none (by rw [lst_len]; omega), List.getElem?_eq_none (by rw [lst_len]; omega)]
theorem lst_succ (g : Nat → Value) (n : Nat) : lst g (n + 1) = lst g n ++ [g n] := by simp [lst, List.range_succ]
theorem lst_set (g : Nat → Value) (n i : Nat) (x : Value) : (lst g n).set i x = lst (fun j => if j = i then x else g j) n := by
  apply List.ext_getElem?
  intro j
  by_cases hj : j < n
  · rw [lst_at hj]
    by_cases e : j = i
    · subst e; rw [List.getElem?_set_self (by rw [lst_len]; exact hj), if_pos rfl]
    · rw [List.getElem?_set_ne (fun k => e k.symm), lst_at hj, if_neg e]
  · rw [List.getElem?_eq_none (by rw [List.length_set, lst_len]; omega), List.getElem?_eq_none (by rw [lst_len]; omega)]
def upd {α : Type} (f : Nat → α) (i : Nat) (x : α) : Nat → α := fun j => if j = i then x else f j
def numL (f : Nat → Int) (n : Nat) : List Value := lst (fun i => .int .i64 (f i)) n
theorem numL_len (f : Nat → Int) (n : Nat) : (numL f n).length = n := lst_len _ _
theorem numL_one (f : Nat → Int) (n : Nat) : ∀ u ∈ numL f n, u.oneCell' = true := by
  intro u hu; unfold numL lst at hu; obtain ⟨x, _, rfl⟩ := List.mem_map.1 hu; rfl
theorem numL_set (f : Nat → Int) (n i : Nat) (x : Int) : (numL f n).set i (.int .i64 x) = numL (upd f i x) n := by
  unfold numL
  rw [lst_set]
  exact lst_congr fun j _ => by unfold upd; split <;> rfl
theorem numL_succ (f : Nat → Int) (n : Nat) : numL f (n + 1) = numL f n ++ [.int .i64 (f n)] := lst_succ _ _
theorem numL_congr {f g : Nat → Int} {n : Nat} (e : ∀ i, i < n → f i = g i) : numL f n = numL g n := lst_congr fun i hi => by rw [e i hi]
/-- A row of numbers, of structs of three, of the call's own. -/
abbrev NumsO (B : Nat) (w : World) (v : Value) (n : Nat) (f : Nat → Int) : Prop := w.ownsRow B 3 1 v n (numL f n)
theorem own_nums {B : Nat} {w : World} {v : Value} {n : Nat} {f : Nat → Int} (h : NumsO B w v n f) (hn : n ≤ 9223372036854775807) : Nums w v n f := by
  obtain ⟨p, cap, rfl, _⟩ := own_small h
  refine ⟨p, cap, rfl, hn, fun j hj => ?_⟩
  obtain ⟨g, cap', e, _, _⟩ := own_block2 h (by omega)
  cases e
  exact ⟨g, 0, rfl, by rw [Nat.zero_add, World.ownsRow.cellAt h j (by omega)]; exact lst_at hj⟩
/-- What is answered of a row. -/
def NumsPost (w : World) (n : Nat) (f : Nat → Int) (c : Value) (e : Ending) (w' : World) : Prop := ∃ v, e = .returned (.tuple #[v, c]) ∧ NumsO w.heap.size w' v n f ∧ Below w.heap.size w w'
theorem NumsPost.one {w : World} {n : Nat} {f : Nat → Int} {c : Value} (hn : n ≤ 9223372036854775807) {e : Ending} {w' : World} (h : NumsPost w n f c e w') : ∃ p cap, e = .returned (.tuple #[.slice p n cap, c]) ∧ NumsO w.heap.size w' (.slice p n cap) n f ∧ Nums w' (.slice p n cap) n f ∧ Below w.heap.size w w' := by
  obtain ⟨v, rfl, ho, hb⟩ := h
  obtain ⟨p, cap, rfl, _⟩ := own_small ho
  exact ⟨p, cap, rfl, ho, own_nums ho hn, hb⟩
/-- A row of which the first k are laid. -/
def hlf (f : Nat → Int) (k : Nat) : Nat → Int := fun j => if j < k then f j else 0
theorem hlf_0 (f : Nat → Int) : hlf f 0 = fun _ => 0 := by funext j; exact if_neg (by omega)
theorem hlf_at (f : Nat → Int) (k : Nat) : hlf f k k = 0 := if_neg (by omega)
theorem hlf_upd (f : Nat → Int) (k : Nat) : upd (hlf f k) k (f k) = hlf f (k + 1) := by
  funext j
  unfold upd hlf
  by_cases e : j = k
  · subst e; rw [if_pos rfl, if_pos (by omega)]
  · rw [if_neg e]
    by_cases h : j < k
    · rw [if_pos h, if_pos (by omega)]
    · rw [if_neg h, if_neg (by omega)]
theorem hlf_end (f : Nat → Int) (n : Nat) : numL (hlf f n) n = numL f n := numL_congr fun _ hi => if_pos hi
theorem upd_same {f : Nat → Int} (i : Nat) (x : Int) : upd f i x i = x := if_pos rfl
theorem upd_ne {f : Nat → Int} {i j : Nat} (x : Int) (h : j ≠ i) : upd f i x j = f j := if_neg h
theorem num_set {B n cap : Nat} {w : World} {g : Nat} {f : Nat → Int} (h : NumsO B w (.slice (some ⟨g, 0, none⟩) n cap) n f) (i : Nat) (x : Int) : NumsO B (w.setCell ⟨g, i, none⟩ (.int .i64 x)) (.slice (some ⟨g, 0, none⟩) n cap) n (upd f i x) := by
  have := (World.ownsRow.stored h i (.int .i64 x)).1
  rwa [numL_set] at this
theorem num_zeros (n : Nat) : (madeCells (Value.int .i64 0).cells (n * 1)).toList = numL (fun _ => 0) n := by
  rw [Nat.mul_one, show (Value.int .i64 0).cells = #[.int .i64 0] from rfl, toList_madeCells_one]
  unfold numL lst
  apply List.ext_getElem?
  intro i
  by_cases hi : i < n
  · simp [hi]
  · simp [hi]
theorem num_at {B n cap : Nat} {w : World} {g : Nat} {f : Nat → Int} (h : NumsO B w (.slice (some ⟨g, 0, none⟩) n cap) n f) {i : Nat} (hi : i < n) : w.cell? ⟨g, i, none⟩ = some (.int .i64 (f i)) := (World.ownsRow.cellAt h i (by omega)).trans (lst_at hi)
end Go.Proofs.Ytdbfjcdglcagaaa
