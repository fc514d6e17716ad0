/- Plain mathematics of a row of Faults and Places with a number at its end; nothing of the program is walked; no condition. -/
import Derived.Test.YtlnamkplbikcjaaGreatDoorYWorks
namespace Go.Proofs.YtlnamkplbikcjaaGreatDoor
open Go.RowKit Ft

namespace Ft
/-- A row of j links that end in the number n; each Fault stands at the handle of its operation's number. -/
inductive Rw (n : Int) : Nat → Er → Prop where
  | base : Rw n 1 (.num n)
  | flt {j : Nat} {e : Er} (x : Int) (h : Rw n j e) : Rw n (j + 1) (.fault x x e)
  | plc {j : Nat} {e : Er} (x : Int) (h : Rw n j e) : Rw n (j + 1) (.place x e)
theorem Rw.ne {n : Int} {j : Nat} {e : Er} (h : Rw n j e) : e ≠ .nil := by
  cases h <;> (intro h; cases h)
theorem Rw.has {n m : Int} {j : Nat} {e : Er} (h : Rw n j e) : e.has m = (n == m) := by
  induction h with
  | base => rfl
  | flt x h ih => exact ih
  | plc x h ih => exact ih
theorem Rw.fnd {n : Int} {j : Nat} {e : Er} (h : Rw n j e) : e.fnd .num = some (.num n) := by
  induction h with
  | base => rfl
  | flt x h ih => exact ih
  | plc x h ih => exact ih
theorem Rw.why {n : Int} {j : Nat} {e : Er} (h : Rw n j e) : e.why = n := by
  unfold Er.why; rw [h.fnd]
theorem Rw.chain {n : Int} {j : Nat} {e : Er} (h : Rw n j e) : ∀ f, (e.chain f).length = min f j := by
  induction h with
  | base =>
    intro f
    cases f with
    | zero => rfl
    | succ f => rw [chain_step f (by intro h; cases h)]; simp [Er.inner, chain_nil]
  | @flt j e x h ih =>
    intro f
    cases f with
    | zero => simp [Er.chain]
    | succ f => rw [chain_step f (by intro h; cases h)]; simp only [Er.inner, List.length_cons]; rw [ih]; omega
  | @plc j e x h ih =>
    intro f
    cases f with
    | zero => simp [Er.chain]
    | succ f => rw [chain_step f (by intro h; cases h)]; simp only [Er.inner, List.length_cons]; rw [ih]; omega
end Ft
theorem fltL_len (op h : Int) (ho : I64 op) (hh : I64 h) : (fltL op h).length ≤ 64 := by
  have := opL_len op ho
  have := toldL_len h hh
  unfold fltL
  simp only [List.length_append, List.length_cons, List.length_nil]
  omega
theorem plcL_len (n : Int) (h : I64 n) : (plcL n).length ≤ 64 := by
  have := itoa_len n h
  unfold plcL
  simp only [List.length_append, List.length_cons, List.length_nil]
  omega
theorem errL_len (n : Int) (h : I64 n) : (errL n).length ≤ 64 := by
  have := itoa_len n h
  unfold errL
  simp only [List.length_append, List.length_cons, List.length_nil]
  omega
/-- What is known of a row that the law makes: the outermost of each kind. -/
structure RowI (n : Int) (j : Nat) (e : Er) (op line : Int) (fs ps : Bool) : Prop where
  row : Rw n j e
  ok : e.ok
  len : (e.txt false).length ≤ 64 * j
  at' : e.at' = if fs then some (op, op) else none
  ln : e.line = if ps then some line else none
  o0 : fs = false → op = 0
  l0 : ps = false → line = 0
theorem RowI.base (n : Int) (h : I64 n) : RowI n 1 (.num n) 0 0 false false := ⟨.base, h, by simp only [Er.txt, nbrL]; rw [if_neg (by simp)]; have := errL_len n h; omega, rfl, rfl, fun _ => rfl, fun _ => rfl⟩
theorem RowI.flt {n : Int} {j : Nat} {e : Er} {op line : Int} {fs ps : Bool} (h : RowI n j e op line fs ps) (x : Int) (hx : I64 x) : RowI n (j + 1) (.fault x x e) x line true ps := by
  refine ⟨.flt x h.row, ⟨hx, hx, h.ok⟩, ?_, rfl, ?_, (fun h => by cases h), h.l0⟩
  · simp only [Er.txt, List.length_append]; have := fltL_len x x hx hx; have := h.len; omega
  · have := h.ln; unfold Er.line at this ⊢; exact this
theorem RowI.plc {n : Int} {j : Nat} {e : Er} {op line : Int} {fs ps : Bool} (h : RowI n j e op line fs ps) (x : Int) (hx : I64 x) : RowI n (j + 1) (.place x e) op x fs true := by
  refine ⟨.plc x h.row, ⟨hx, h.ok⟩, ?_, ?_, rfl, h.o0, (fun h => by cases h)⟩
  · simp only [Er.txt, List.length_append]; have := plcL_len x hx; have := h.len; omega
  · have := h.at'; unfold Er.at' at this ⊢; exact this
/-- A slice of n numbers. -/
def Nums (w : World) (v : Value) (n : Nat) (f : Nat → Int) : Prop := ∃ p cap, v = .slice p n cap ∧ n ≤ 9223372036854775807 ∧ ∀ j, j < n → ∃ b off, p = some ⟨b, off, none⟩ ∧ w.cell? ⟨b, off + j, none⟩ = some (.int .i64 (f j))
end Go.Proofs.YtlnamkplbikcjaaGreatDoor
