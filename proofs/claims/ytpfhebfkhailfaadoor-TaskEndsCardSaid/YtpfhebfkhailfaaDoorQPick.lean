/- Slices of tasks, which of them is picked; nothing of the program is walked; no condition but those that each row names. -/
import Derived.Test.YtpfhebfkhailfaaDoorQRefA
namespace Go.Proofs.YtpfhebfkhailfaaDoor
open Go.RowKit Tsk

namespace Tsk
/-- A task: its priority, its jobs' slice, how many they are, which, its account. -/
structure Tk where
  p : Int
  s : Value
  n : Nat
  f : Nat → Jb
  k : Ac
end Tsk
/-- A slice of m tasks. -/
def Tasks (w : World) (v : Value) (m : Nat) (T : Nat → Tk) : Prop := ∃ p cap, v = .slice p m cap ∧ m ≤ 9223372036854775807 ∧ ∀ j, j < m → ∃ b off, p = some ⟨b, off, none⟩ ∧
  w.cell? ⟨b, off + j * 8, none⟩ = some (.int .i64 (T j).p) ∧ w.cell? ⟨b, off + j * 8 + 1, none⟩ = some (T j).s ∧ w.cell? ⟨b, off + j * 8 + 2, none⟩ = some (.int .i64 (T j).k.g) ∧ w.cell? ⟨b, off + j * 8 + 3, none⟩ = some (.int .i64 (T j).k.o) ∧ w.cell? ⟨b, off + j * 8 + 4, none⟩ = some (.int .i64 (T j).k.n) ∧ w.cell? ⟨b, off + j * 8 + 5, none⟩ = some (.int .i64 (T j).k.d) ∧ w.cell? ⟨b, off + j * 8 + 6, none⟩ = some (.int .i64 (T j).k.c) ∧ w.cell? ⟨b, off + j * 8 + 7, none⟩ = some (.int .i64 (T j).k.t) ∧ Jobs w (T j).s (T j).n (T j).f
theorem Tasks.below {w w' : World} {v : Value} {m : Nat} {T : Nat → Tk} (h : Tasks w v m T) (hb : Below w.heap.size w w') : Tasks w' v m T := by
  obtain ⟨p, cap, e, hm, hc⟩ := h
  refine ⟨p, cap, e, hm, fun j hj => ?_⟩
  obtain ⟨b, off, e2, c0, c1, c2, c3, c4, c5, c6, c7, hJ⟩ := hc j hj
  have hl := cell_lt c0
  have k := fun (o : Nat) => hb.cell (p := ⟨b, o, none⟩) hl
  exact ⟨b, off, e2, (k _).trans c0, (k _).trans c1, (k _).trans c2, (k _).trans c3, (k _).trans c4, (k _).trans c5, (k _).trans c6, (k _).trans c7, hJ.below hb⟩
/-- The place of the first of the most urgent ones that are ready. -/
def pickS (T : Nat → Tk) : Nat → Int
  | 0 => -1
  | i + 1 => if 0 < (T i).n ∧ (pickS T i < 0 ∨ (T i).p < (T (pickS T i).toNat).p) then (i : Nat) else pickS T i
theorem pickS_le (T : Nat → Tk) : ∀ m, -1 ≤ pickS T m ∧ pickS T m < m
  | 0 => by simp [pickS]
  | i + 1 => by
    have := pickS_le T i
    simp only [pickS]
    split <;> omega
end Go.Proofs.YtpfhebfkhailfaaDoor
