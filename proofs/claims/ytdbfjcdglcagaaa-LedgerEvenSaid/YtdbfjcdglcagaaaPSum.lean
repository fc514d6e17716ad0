/- The program's sums and tests of accounts: sum, valid, Add; no condition but those that each row names. -/
import Derived.Test.YtdbfjcdglcagaaaPProg
namespace Go.Proofs.Ytdbfjcdglcagaaa
open Go.RowKit Go.Maps Bk

set_option maxHeartbeats 1000000 in
theorem psum (w : World) (a b : Ac) : Calls Try.prog 15 #[aV a, aV b] w fun e w' => e = .returned (aV (sumA a b)) ∧ Below w.heap.size w w' := by
  go_enter Try.func15, Try.ntmps15
  go_wp2_with fail
  refine bodyPost_ret (v := aV (sumA a b)) (by simp [results, Try.results15, go_sem, sumA]) rfl ⟨rfl, (by repeat (first | exact Below.refl _ _ | (with_reducible assumption) | refine Below.drew ?_ | (refine Below.alloc ?_ (by first | exact Nat.le_refl _ | omega | (simp; done) | (simp; omega)) _) | (refine Below.setCell ?_ (by first | omega | (simp; done) | (simp; omega)) _)))⟩
def c6 (a : Ac) : List Value := [.int .i64 a.g, .int .i64 a.o, .int .i64 a.l, .int .i64 a.d, .int .i64 a.c, .int .i64 a.t]
def acL (A : List Ac) : List Value := A.flatMap c6
theorem acL_at : ∀ (A : List Ac) (i : Nat) (h : i < A.length) (r : Nat), r < 6 → (acL A)[i * 6 + r]? = (c6 A[i])[r]?
  | [], i, h, _, _ => by simp at h
  | x :: s, 0, _, r, hr => by
    have e : acL (x :: s) = c6 x ++ acL s := rfl
    rw [e, Nat.zero_mul, Nat.zero_add, List.getElem?_append_left (by simpa [c6] using hr)]
    rfl
  | x :: s, i + 1, h, r, hr => by
    have e : acL (x :: s) = c6 x ++ acL s := rfl
    have ih := acL_at s i (by simpa using h) r hr
    have hl : (c6 x).length = 6 := rfl
    rw [e, List.getElem?_append_right (by rw [hl]; omega), hl, show (i + 1) * 6 + r - 6 = i * 6 + r by omega, ih]
    rfl
/-- The parts of an account. -/
def prt6 (a : Ac) (r : Nat) : Int := if r = 0 then a.g else if r = 1 then a.o else if r = 2 then a.l else if r = 3 then a.d else if r = 4 then a.c else a.t
theorem ok_prt {a : Ac} : okA a ↔ ∀ r, r < 6 → okN (prt6 a r) := by
  constructor
  · rintro ⟨h0, h1, h2, h3, h4, h5⟩ r hr
    have : r = 0 ∨ r = 1 ∨ r = 2 ∨ r = 3 ∨ r = 4 ∨ r = 5 := by omega
    rcases this with rfl | rfl | rfl | rfl | rfl | rfl <;> assumption
  · intro h
    exact ⟨h 0 (by omega), h 1 (by omega), h 2 (by omega), h 3 (by omega), h 4 (by omega), h 5 (by omega)⟩
end Go.Proofs.Ytdbfjcdglcagaaa
