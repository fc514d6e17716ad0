/- Slices of numbers, and of structs of three numbers, that read as functions of the place; rows of the call's own of such; nothing of the program is walked; no condition. -/
import Derived.Test.YtfahpjilgdlhiaaWFx
namespace Go.Proofs.Ytfahpjilgdlhiaa
open Go.RowKit Edf

/-- A slice of n numbers. -/
def Nums (w : World) (v : Value) (n : Nat) (f : Nat → Int) : Prop := ∃ p cap, v = .slice p n cap ∧ n ≤ 9223372036854775807 ∧ ∀ j, j < n → ∃ b off, p = some ⟨b, off, none⟩ ∧ w.cell? ⟨b, off + j, none⟩ = some (.int .i64 (f j))
theorem Nums.below {w w' : World} {v : Value} {n : Nat} {f : Nat → Int} (h : Nums w v n f) (hb : Below w.heap.size w w') : Nums w' v n f := by
  obtain ⟨p, cap, e, hm, hc⟩ := h
  refine ⟨p, cap, e, hm, fun j hj => ?_⟩
  obtain ⟨b, off, e2, c⟩ := hc j hj
  exact ⟨b, off, e2, (hb.cell (p := ⟨b, off + j, none⟩) (cell_lt c)).trans c⟩
theorem Nums.congr {w : World} {v : Value} {n : Nat} {f g : Nat → Int} (h : Nums w v n f) (e : ∀ j, j < n → f j = g j) : Nums w v n g := by
  obtain ⟨p, cap, e1, hm, hc⟩ := h
  refine ⟨p, cap, e1, hm, fun j hj => ?_⟩
  obtain ⟨b, off, e2, c⟩ := hc j hj
  exact ⟨b, off, e2, by rw [c, e j hj]⟩
/-- A slice of n structs of three numbers. -/
def Tris (w : World) (v : Value) (n : Nat) (f : Nat → Tri) : Prop := ∃ p cap, v = .slice p n cap ∧ n ≤ 9223372036854775807 ∧ ∀ j, j < n → ∃ b off, p = some ⟨b, off, none⟩ ∧
  w.cell? ⟨b, off + j * 3, none⟩ = some (.int .i64 (f j).a) ∧ w.cell? ⟨b, off + j * 3 + 1, none⟩ = some (.int .i64 (f j).b) ∧ w.cell? ⟨b, off + j * 3 + 2, none⟩ = some (.int .i64 (f j).c)
theorem Tris.below {w w' : World} {v : Value} {n : Nat} {f : Nat → Tri} (h : Tris w v n f) (hb : Below w.heap.size w w') : Tris w' v n f := by
  obtain ⟨p, cap, e, hm, hc⟩ := h
  refine ⟨p, cap, e, hm, fun j hj => ?_⟩
  obtain ⟨b, off, e2, c0, c1, c2⟩ := hc j hj
  have hl := cell_lt c0
  exact ⟨b, off, e2, (hb.cell (p := ⟨b, off + j * 3, none⟩) hl).trans c0, (hb.cell (p := ⟨b, off + j * 3 + 1, none⟩) hl).trans c1, (hb.cell (p := ⟨b, off + j * 3 + 2, none⟩) hl).trans c2⟩
theorem Tris.congr {w : World} {v : Value} {n : Nat} {f g : Nat → Tri} (h : Tris w v n f) (e : ∀ j, j < n → f j = g j) : Tris w v n g := by
  obtain ⟨p, cap, e1, hm, hc⟩ := h
  refine ⟨p, cap, e1, hm, fun j hj => ?_⟩
  obtain ⟨b, off, e2, c⟩ := hc j hj
  rw [e j hj] at c
  exact ⟨b, off, e2, c⟩
/-- A row of cells told by their places. -/
def lst (g : Nat → Value) (n : Nat) : List Value := (List.range n).map g
theorem lst_len (g : Nat → Value) (n : Nat) : (lst g n).length = n := by simp [lst]
theorem lst_at {g : Nat → Value} {n i : Nat} (h : i < n) : (lst g n)[i]? = some (g i) := by simp [lst, h]
theorem lst_get {g : Nat → Value} {n i : Nat} (h : i < (lst g n).length) : (lst g n)[i] = g i := by simp [lst]
theorem lst_congr {g h : Nat → Value} {n : Nat} (e : ∀ i, i < n → g i = h i) : lst g n = lst h n := by
  apply List.ext_getElem?
  intro i
  by_cases hi : i < n
  · rw [lst_at hi, lst_at hi, e i hi]
  · rw [List.getElem?_eq_none (by rw [lst_len]; omega), List.getElem?_eq_none (by rw [lst_len]; omega)]
theorem lst_succ (g : Nat → Value) (n : Nat) : lst g (n + 1) = lst g n ++ [g n] := by simp [lst, List.range_succ]
theorem lst_set (g : Nat → Value) (n i : Nat) (x : Value) : (lst g n).set i x = lst (fun j => if j = i then x else g j) n := by
  apply List.ext_getElem?
  intro j
  by_cases hj : j < n
  · rw [lst_at hj]
    by_cases e : j = i
    · subst e; rw [List.getElem?_set_self (by rw [lst_len]; exact hj), if_pos rfl]
    · rw [List.getElem?_set_ne (fun k => e k.symm), lst_at hj, if_neg e]
  · rw [List.getElem?_eq_none (by rw [List.length_set, lst_len]; omega), List.getElem?_eq_none (by rw [lst_len]; omega)]
def upd {α : Type} (f : Nat → α) (i : Nat) (x : α) : Nat → α := fun j => if j = i then x else f j
def numL (f : Nat → Int) (n : Nat) : List Value := lst (fun i => .int .i64 (f i)) n
def prt (t : Tri) (r : Nat) : Int := if r = 0 then t.a else if r = 1 then t.b else t.c
def triL (f : Nat → Tri) (n : Nat) : List Value := lst (fun m => .int .i64 (prt (f (m / 3)) (m % 3))) (n * 3)
theorem numL_len (f : Nat → Int) (n : Nat) : (numL f n).length = n := lst_len _ _
theorem triL_len (f : Nat → Tri) (n : Nat) : (triL f n).length = n * 3 := lst_len _ _
theorem numL_one (f : Nat → Int) (n : Nat) : ∀ u ∈ numL f n, u.oneCell' = true := by
  intro u hu; unfold numL lst at hu; obtain ⟨x, _, rfl⟩ := List.mem_map.1 hu; rfl
theorem triL_one (f : Nat → Tri) (n : Nat) : ∀ u ∈ triL f n, u.oneCell' = true := by
  intro u hu; unfold triL lst at hu; obtain ⟨x, _, rfl⟩ := List.mem_map.1 hu; rfl
theorem numL_set (f : Nat → Int) (n i : Nat) (x : Int) : (numL f n).set i (.int .i64 x) = numL (upd f i x) n := by
  unfold numL
  rw [lst_set]
  exact lst_congr fun j _ => by unfold upd; split <;> rfl
theorem triL_at (f : Nat → Tri) {n j : Nat} (h : j < n) : (triL f n)[j * 3]? = some (.int .i64 (f j).a) ∧ (triL f n)[j * 3 + 1]? = some (.int .i64 (f j).b) ∧ (triL f n)[j * 3 + 2]? = some (.int .i64 (f j).c) := by
  unfold triL
  rw [lst_at (by omega), lst_at (by omega), lst_at (by omega)]
  rw [show j * 3 / 3 = j by omega, show (j * 3 + 1) / 3 = j by omega, show (j * 3 + 2) / 3 = j by omega, show j * 3 % 3 = 0 by omega, show (j * 3 + 1) % 3 = 1 by omega, show (j * 3 + 2) % 3 = 2 by omega]
  exact ⟨rfl, rfl, rfl⟩
theorem triL_set (f : Nat → Tri) (n i : Nat) (t : Tri) : (((triL f n).set (i * 3) (.int .i64 t.a)).set (i * 3 + 1) (.int .i64 t.b)).set (i * 3 + 2) (.int .i64 t.c) = triL (upd f i t) n := by
  unfold triL
  rw [lst_set, lst_set, lst_set]
  refine lst_congr fun j hj => ?_
  unfold upd
  by_cases e2 : j = i * 3 + 2
  · subst e2; rw [if_pos rfl, show (i * 3 + 2) / 3 = i by omega, show (i * 3 + 2) % 3 = 2 by omega, if_pos rfl]; rfl
  · rw [if_neg e2]
    by_cases e1 : j = i * 3 + 1
    · subst e1; rw [if_pos rfl, show (i * 3 + 1) / 3 = i by omega, show (i * 3 + 1) % 3 = 1 by omega, if_pos rfl]; rfl
    · rw [if_neg e1]
      by_cases e0 : j = i * 3
      · subst e0; rw [if_pos rfl, show i * 3 / 3 = i by omega, show i * 3 % 3 = 0 by omega, if_pos rfl]; rfl
      · rw [if_neg e0, if_neg (by omega)]
theorem triL_setb (f : Nat → Tri) (n i : Nat) (x : Int) : (triL f n).set (i * 3 + 1) (.int .i64 x) = triL (upd f i ⟨(f i).a, x, (f i).c⟩) n := by
  unfold triL
  rw [lst_set]
  refine lst_congr fun j hj => ?_
  unfold upd
  by_cases e1 : j = i * 3 + 1
  · subst e1; rw [if_pos rfl, show (i * 3 + 1) / 3 = i by omega, show (i * 3 + 1) % 3 = 1 by omega, if_pos rfl]; rfl
  · rw [if_neg e1]
    by_cases e0 : j / 3 = i
    · rw [if_pos e0, e0]
      have : j % 3 = 0 ∨ j % 3 = 2 := by omega
      rcases this with e | e <;> rw [e] <;> rfl
    · rw [if_neg e0]
theorem numL_succ (f : Nat → Int) (n : Nat) : numL f (n + 1) = numL f n ++ [.int .i64 (f n)] := lst_succ _ _
theorem triL_succ (f : Nat → Tri) (n : Nat) : triL f (n + 1) = triL f n ++ [.int .i64 (f n).a, .int .i64 (f n).b, .int .i64 (f n).c] := by
  unfold triL
  rw [show (n + 1) * 3 = n * 3 + 1 + 1 + 1 by omega, lst_succ, lst_succ, lst_succ]
  rw [show n * 3 / 3 = n by omega, show (n * 3 + 1) / 3 = n by omega, show (n * 3 + 1 + 1) / 3 = n by omega, show n * 3 % 3 = 0 by omega, show (n * 3 + 1) % 3 = 1 by omega, show (n * 3 + 1 + 1) % 3 = 2 by omega]
  simp [prt]
theorem numL_congr {f g : Nat → Int} {n : Nat} (e : ∀ i, i < n → f i = g i) : numL f n = numL g n := lst_congr fun i hi => by rw [e i hi]
theorem triL_congr {f g : Nat → Tri} {n : Nat} (e : ∀ i, i < n → f i = g i) : triL f n = triL g n := lst_congr fun i hi => by rw [e _ (by omega)]
/-- A row of numbers, of structs of three, of the call's own. -/
abbrev NumsO (B : Nat) (w : World) (v : Value) (n : Nat) (f : Nat → Int) : Prop := w.ownsRow B 3 1 v n (numL f n)
abbrev TrisO (T : TypeId) (B : Nat) (w : World) (v : Value) (n : Nat) (f : Nat → Tri) : Prop := w.ownsRow B T 3 v n (triL f n)
theorem own_nums {B : Nat} {w : World} {v : Value} {n : Nat} {f : Nat → Int} (h : NumsO B w v n f) (hn : n ≤ 9223372036854775807) : Nums w v n f := by
  obtain ⟨p, cap, rfl, _⟩ := own_small h
  refine ⟨p, cap, rfl, hn, fun j hj => ?_⟩
  obtain ⟨g, cap', e, _, _⟩ := own_block2 h (by omega)
  cases e
  exact ⟨g, 0, rfl, by rw [Nat.zero_add, World.ownsRow.cellAt h j (by omega)]; exact lst_at hj⟩
theorem own_tris {T : TypeId} {B : Nat} {w : World} {v : Value} {n : Nat} {f : Nat → Tri} (h : TrisO T B w v n f) (hn : n ≤ 9223372036854775807) : Tris w v n f := by
  obtain ⟨p, cap, rfl, _⟩ := own_small h
  refine ⟨p, cap, rfl, hn, fun j hj => ?_⟩
  obtain ⟨g, cap', e, _, _⟩ := own_block2 h (by omega)
  cases e
  obtain ⟨c0, c1, c2⟩ := triL_at f hj
  refine ⟨g, 0, rfl, ?_, ?_, ?_⟩
  · rw [Nat.zero_add, World.ownsRow.cellAt h _ (by omega)]; exact c0
  · rw [Nat.zero_add, World.ownsRow.cellAt h _ (by omega)]; exact c1
  · rw [Nat.zero_add, World.ownsRow.cellAt h _ (by omega)]; exact c2
/-- What is answered of a row. -/
def NumsPost (w : World) (n : Nat) (f : Nat → Int) (c : Value) (e : Ending) (w' : World) : Prop := ∃ v, e = .returned (.tuple #[v, c]) ∧ NumsO w.heap.size w' v n f ∧ Below w.heap.size w w'
theorem NumsPost.one {w : World} {n : Nat} {f : Nat → Int} {c : Value} (hn : n ≤ 9223372036854775807) {e : Ending} {w' : World} (h : NumsPost w n f c e w') : ∃ p cap, e = .returned (.tuple #[.slice p n cap, c]) ∧ NumsO w.heap.size w' (.slice p n cap) n f ∧ Nums w' (.slice p n cap) n f ∧ Below w.heap.size w w' := by
  obtain ⟨v, rfl, ho, hb⟩ := h
  obtain ⟨p, cap, rfl, _⟩ := own_small ho
  exact ⟨p, cap, rfl, ho, own_nums ho hn, hb⟩
end Go.Proofs.Ytfahpjilgdlhiaa
