/- A row of tasks of the call's own; jobs that stay while another row grows; no condition but those that each row names. -/
import Derived.Test.YtpfhebfkhailfaaDoorULawA
import Derived.Test.YtpfhebfkhailfaaDoorUPick
import Derived.Maps.AppendAt
namespace Go.Proofs.YtpfhebfkhailfaaDoor
open Go.RowKit Go.Shelf Tsk

theorem Tryd.infTk : (Tryd.prog.info? KT).map (fun i => (i.zero, i.size, i.bytes)) = some (some (.agg #[.int .i64 0, .slice none 0 0, .int .i64 0, .int .i64 0, .int .i64 0, .int .i64 0, .int .i64 0, .int .i64 0]), 8, 80) := by kernel_rfl
/-- The parts of a task. -/
def prtT (t : Tk) (r : Nat) : Value := if r = 0 then .int .i64 t.p else if r = 1 then t.s else if r = 2 then .int .i64 t.k.g else if r = 3 then .int .i64 t.k.o else if r = 4 then .int .i64 t.k.n else if r = 5 then .int .i64 t.k.d else if r = 6 then .int .i64 t.k.c else .int .i64 t.k.t
def tkL (T : Nat → Tk) (n : Nat) : List Value := lst (fun m => prtT (T (m / 8)) (m % 8)) (n * 8)
theorem tkL_len (T : Nat → Tk) (n : Nat) : (tkL T n).length = n * 8 := lst_len _ _
theorem tkL_congr {T T' : Nat → Tk} {n : Nat} (e : ∀ i, i < n → T i = T' i) : tkL T n = tkL T' n := lst_congr fun i hi => by rw [e _ (by omega)]
theorem tkL_at (T : Nat → Tk) {n j : Nat} (h : j < n) (r : Nat) (hr : r < 8) : (tkL T n)[j * 8 + r]? = some (prtT (T j) r) := by
  unfold tkL
  rw [lst_at (by omega), show (j * 8 + r) / 8 = j by omega, show (j * 8 + r) % 8 = r by omega]
theorem tkL_succ (T : Nat → Tk) (n : Nat) : tkL T (n + 1) = tkL T n ++ [.int .i64 (T n).p, (T n).s, .int .i64 (T n).k.g, .int .i64 (T n).k.o, .int .i64 (T n).k.n, .int .i64 (T n).k.d, .int .i64 (T n).k.c, .int .i64 (T n).k.t] := by
  apply List.ext_getElem?
  intro i
  by_cases hi : i < n * 8
  · rw [List.getElem?_append_left (by rw [tkL_len]; exact hi)]
    unfold tkL
    rw [lst_at (by omega), lst_at hi]
  · by_cases hi2 : i < (n + 1) * 8
    · have e : i = n * 8 + (i - n * 8) := by omega
      rw [e, tkL_at T (by omega) _ (by omega), List.getElem?_append_right (by rw [tkL_len]; omega), tkL_len]
      have hr : i - n * 8 = 0 ∨ i - n * 8 = 1 ∨ i - n * 8 = 2 ∨ i - n * 8 = 3 ∨ i - n * 8 = 4 ∨ i - n * 8 = 5 ∨ i - n * 8 = 6 ∨ i - n * 8 = 7 := by omega
      generalize i - n * 8 = r at *
      rw [Nat.add_sub_cancel_left]
      rcases hr with rfl | rfl | rfl | rfl | rfl | rfl | rfl | rfl <;> rfl
    · rw [List.getElem?_eq_none (by rw [tkL_len]; omega), List.getElem?_eq_none (by rw [List.length_append, tkL_len]; simp; omega)]
/-- A row of one's own that reads as tasks. -/
theorem own_tasks {B : Nat} {w : World} {v : Value} {n : Nat} {T : Nat → Tk} (h : w.ownsRow B KT 8 v n (tkL T n)) (hn : n ≤ 9223372036854775807) (hj : ∀ j, j < n → Jobs w (T j).s (T j).n (T j).f) : Tasks w v n T := by
  obtain ⟨p, cap, rfl, _⟩ := own_small h
  refine ⟨p, cap, rfl, hn, fun j hlt => ?_⟩
  obtain ⟨g, cap', e, _, _⟩ := own_block2 h (by omega)
  cases e
  have c := fun (r : Nat) (hr : r < 8) => (World.ownsRow.cellAt h (j * 8 + r) (by omega)).trans (tkL_at T hlt r hr)
  refine ⟨g, 0, rfl, ?_, ?_, ?_, ?_, ?_, ?_, ?_, ?_, hj j hlt⟩
  · rw [Nat.zero_add]; exact c 0 (by omega)
  · rw [Nat.zero_add]; exact c 1 (by omega)
  · rw [Nat.zero_add]; exact c 2 (by omega)
  · rw [Nat.zero_add]; exact c 3 (by omega)
  · rw [Nat.zero_add]; exact c 4 (by omega)
  · rw [Nat.zero_add]; exact c 5 (by omega)
  · rw [Nat.zero_add]; exact c 6 (by omega)
  · rw [Nat.zero_add]; exact c 7 (by omega)
/-- A slice's elements lie in no such block. -/
def NotIn (v : Value) (row : Option Nat) : Prop := ∀ a n c, v = .slice (some a) n c → 0 < n → row ≠ some a.block
theorem Jobs.grown {w w' : World} {v : Value} {n : Nat} {f : Nat → Jb} {row : Option Nat} (h : Jobs w v n f) (hg : w.grownBy w' row) (hne : NotIn v row) : Jobs w' v n f := by
  obtain ⟨p, cap, e, hm, hc⟩ := h
  refine ⟨p, cap, e, hm, fun j hj => ?_⟩
  obtain ⟨b, off, e2, c0, c1, c2, c3⟩ := hc j hj
  subst e2
  have hlt := cell_lt c0
  have hb : w'.heap[b]? = w.heap[b]? := hg.block b hlt (fun h => hne _ _ _ e (by omega) h.symm)
  have k := fun (o : Nat) => World.cell?_of_block (w := w) (w' := w') (a := ⟨b, o, none⟩) hb
  exact ⟨b, off, rfl, (k _).trans c0, (k _).trans c1, (k _).trans c2, (k _).trans c3⟩
theorem Jobs.lt {w : World} {v : Value} {n : Nat} {f : Nat → Jb} (h : Jobs w v n f) : ∀ a n' c, v = .slice (some a) n' c → 0 < n' → a.block < w.heap.size := by
  intro a n' c e hn
  obtain ⟨p, cap, e1, hm, hc⟩ := h
  rw [e] at e1
  cases e1
  obtain ⟨b, off, e2, c0, _⟩ := hc 0 hn
  cases e2
  exact cell_lt c0
theorem NotIn.old {w : World} {v : Value} {n : Nat} {f : Nat → Jb} (h : Jobs w v n f) {b : Nat} (hb : w.heap.size ≤ b) : NotIn v (some b) := fun a n' c e hn e2 => by
  have := h.lt a n' c e hn
  cases e2
  omega
theorem NotIn.new {B : Nat} {w : World} {v : Value} {n : Nat} {f : Nat → Jb} (h : JobsO B w v n f) {row : Option Nat} (hr : ∀ b, row = some b → b < B) : NotIn v row := fun a n' c e hn e2 => by
  have h1 := hr _ e2
  have h2 := (World.ownsRow.lt h a.block (by
    rw [e]
    obtain ⟨p, cap, e3, _⟩ := own_small h
    rw [e] at e3
    cases e3
    obtain ⟨g, cap', e4, _⟩ := own_block2 h hn
    rw [e] at e4
    cases e4
    rfl)).1
  omega
/-- The same tasks, their jobs elsewhere. -/
def tm (T : Nat → Tk) (sl : Nat → Value) : Nat → Tk := fun j => ⟨(T j).p, sl j, (T j).n, (T j).f, (T j).k⟩
theorem pickS_tm (T : Nat → Tk) (sl : Nat → Value) : ∀ m, pickS (tm T sl) m = pickS T m
  | 0 => rfl
  | m + 1 => by
    have h := pickS_tm T sl m
    show (if 0 < (T m).n ∧ (pickS (tm T sl) m < 0 ∨ (T m).p < (T (pickS (tm T sl) m).toNat).p) then ((m : Nat) : Int) else pickS (tm T sl) m) = _
    rw [h]
    rfl
end Go.Proofs.YtpfhebfkhailfaaDoor
