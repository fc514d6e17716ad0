/- Items that may be, as natural numbers; the first beginning of a period from a time on, and how many periods lie in a stretch: the program's and the document's; no condition but those that each row names. -/
import Derived.Test.YtfahpjilgdlhiaaWVal
namespace Go.Proofs.Ytfahpjilgdlhiaa
open Go.RowKit Edf

/-- An item that may be. -/
structure ItB (x : It) : Prop where
  q1 : 1 ≤ x.q
  qp : x.q ≤ x.p
  p2 : x.p ≤ 1048576
  s2 : x.s ≤ 1073741824
theorem ItB.ok {x : It} (h : ItB x) : x.Ok := ⟨h.q1, h.qp⟩
def ofIt (x : It) : Tri := ⟨x.q, x.p, x.s⟩
def itI (n : Nat) (f : Nat → Tri) (i : Nat) : It := if i < n then ⟨(f i).a.toNat, (f i).b.toNat, (f i).c.toNat⟩ else ⟨1, 1, 0⟩
theorem vE_ok {n : Nat} {f : Nat → Tri} (h : vE n f = 0) : n ≤ 64 ∧ (∀ i, ItB (itI n f i)) ∧ ∀ i, i < n → f i = ofIt (itI n f i) := by
  unfold vE at h
  by_cases h64 : 64 < n
  · rw [if_pos h64] at h; cases h
  · rw [if_neg h64] at h
    have hall := firstE_all n h
    refine ⟨by omega, fun i => ?_, fun i hi => ?_⟩
    · unfold itI
      by_cases hi : i < n
      · rw [if_pos hi]
        obtain ⟨⟨h1, h2, h3⟩, h4, h5⟩ := itE_ok (hall i hi)
        exact ⟨by simp only; omega, by simp only; omega, by simp only; omega, by simp only; omega⟩
      · rw [if_neg hi]; exact ⟨by simp, by simp, by simp, by simp⟩
    · obtain ⟨⟨h1, h2, h3⟩, h4, h5⟩ := itE_ok (hall i hi)
      unfold itI ofIt
      rw [if_pos hi]
      have e1 : ((f i).a.toNat : Int) = (f i).a := by omega
      have e2 : ((f i).b.toNat : Int) = (f i).b := by omega
      have e3 : ((f i).c.toNat : Int) = (f i).c := by omega
      show f i = ⟨((f i).a.toNat : Int), ((f i).b.toNat : Int), ((f i).c.toNat : Int)⟩
      rw [e1, e2, e3]
theorem bk_int (x : It) (hp : 1 ≤ x.p) {a : Nat} (h : x.s ≤ a) : ((a : Int) - x.s + x.p - 1) / x.p = (bk x a : Nat) := by
  unfold bk
  rw [show ((a : Int) - x.s + x.p - 1) = ((a - x.s + x.p - 1 : Nat) : Int) by omega]
  rfl
theorem bk_early (x : It) (hp : 1 ≤ x.p) {a : Nat} (h : a ≤ x.s) : bk x a = 0 := by
  unfold bk
  rw [show a - x.s + x.p - 1 = x.p - 1 by omega]
  exact Nat.div_eq_of_lt (by omega)
theorem bk_mul (x : It) (a : Nat) : bk x a * x.p ≤ a - x.s + x.p - 1 := Nat.div_mul_le_self _ _
theorem bg_le (x : It) {a : Nat} : bg x a ≤ a + x.s + x.p := by
  have := bk_mul x a
  unfold bg
  omega
theorem bk_le2 (x : It) (hB : ItB x) (a : Nat) : bk x a ≤ a + x.p := by
  have h1 := bk_mul x a
  have h2 : bk x a * 1 ≤ bk x a * x.p := Nat.mul_le_mul_left _ (by have := hB.q1; have := hB.qp; omega)
  omega
abbrev itV (x : It) : Value := .agg #[.int .i64 (x.q : Nat), .int .i64 (x.p : Nat), .int .i64 (x.s : Nat)]

set_option maxHeartbeats 1000000 in
theorem begin_any (x : It) (hB : ItB x) (a : Nat) (ha : a ≤ 1073741824) (w : World) : Calls Try.prog 51 #[itV x, .int .i64 (a : Nat)] w (IntPost w (bg x a : Nat)) := by
  have hq1 := hB.q1
  have hqp := hB.qp
  have hp2 := hB.p2
  have hs2 := hB.s2
  have hp1 : 1 ≤ x.p := by omega
  have h1 := bk_mul x a
  have h2 := bk_le2 x hB a
  have HG := Lib.hid (show ((bg x a : Nat) : Int) = (x.s : Int) + (bk x a : Int) * (x.p : Int) by unfold bg; simp)
  have hm1 : (0 : Int) ≤ (bk x a : Int) * (x.p : Int) := by
    have : (0 : Int) ≤ ((bk x a * x.p : Nat) : Int) := by omega
    simpa using this
  have hm2 : (bk x a : Int) * (x.p : Int) ≤ 4294967296 := by
    have : ((bk x a * x.p : Nat) : Int) ≤ 4294967296 := by omega
    simpa using this
  by_cases hs : x.s < a
  · have hk := bk_int x hp1 (Nat.le_of_lt hs)
    have hs' : (x.s : Int) < (a : Int) := by omega
    have hle : (0 : Int) ≤ (a : Int) - (x.s : Int) := by omega
    obtain ⟨q, p, s⟩ := x
    simp only at *
    clear hB
    generalize bk ⟨q, p, s⟩ a = k at *
    generalize bg ⟨q, p, s⟩ a = g at *
    have HW1 := Lib.hid (IntWalk.wrap64_in ((k : Int) * (p : Int)) ⟨by omega, by omega⟩)
    have HW2 := Lib.hid (IntWalk.wrap64_in ((s : Int) + (k : Int) * (p : Int)) ⟨by omega, by omega⟩)
    clear h1 hm1 hm2
    go_enter Try.func51, Try.ntmps51
    go_wp2_with fail
    go_ret
    exact ⟨ret_int (by rw [HW1.out, HW2.out]; exact HG.out.symm), (by repeat (first | exact Below.refl _ _ | (with_reducible assumption) | refine Below.drew ?_ | (refine Below.alloc ?_ (by first | exact Nat.le_refl _ | omega | (simp; done) | (simp; omega)) _) | (refine Below.setCell ?_ (by first | omega | (simp; done) | (simp; omega)) _)))⟩
  · have hk := bk_early x hp1 (a := a) (by omega)
    have hs' : (a : Int) ≤ (x.s : Int) := by omega
    obtain ⟨q, p, s⟩ := x
    simp only at *
    clear hB
    rw [hk] at HG
    have hd : ((p : Int) - 1) / (p : Int) = 0 := Int.ediv_eq_zero_of_lt (by omega) (by omega)
    generalize bk ⟨q, p, s⟩ a = k at *
    generalize bg ⟨q, p, s⟩ a = g at *
    clear h1 h2 hm1 hm2 hk hs
    go_enter Try.func51, Try.ntmps51
    go_wp2_with fail
    go_ret
    exact ⟨ret_int (by rw [HG.out]; simp), (by repeat (first | exact Below.refl _ _ | (with_reducible assumption) | refine Below.drew ?_ | (refine Below.alloc ?_ (by first | exact Nat.le_refl _ | omega | (simp; done) | (simp; omega)) _) | (refine Below.setCell ?_ (by first | omega | (simp; done) | (simp; omega)) _)))⟩
end Go.Proofs.Ytfahpjilgdlhiaa
