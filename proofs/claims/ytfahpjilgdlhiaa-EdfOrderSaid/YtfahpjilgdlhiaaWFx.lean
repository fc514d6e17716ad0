/- Of the packages fixed and edf: Valid, Share of a reservation, what is a time, an item's reservation, the first beginning of a period; no condition but those that each row names. -/
import Derived.Test.YtfahpjilgdlhiaaWKeep
import Derived.Test.YtfahpjilgdlhiaaWPlan
namespace Go.Proofs.Ytfahpjilgdlhiaa
open Go.RowKit

/-- May a reservation be? -/
def okR (q p : Int) : Prop := 1 ≤ q ∧ q ≤ p ∧ p ≤ 1048576

theorem valid_ok (q p : Int) (w : World) (h : okR q p) :
    Calls Try.prog 37 #[.agg #[.int .i64 q, .int .i64 p]] w fun e w' => e = .returned .nilIface ∧ Below w.heap.size w w' := by
  obtain ⟨h1, h2, h3⟩ := h
  go_enter Try.func37, Try.ntmps37
  go_wp2
  go_ret
  exact ⟨rfl, (Below.refl _ _).alloc (Nat.le_refl _) _⟩

theorem valid_no (q p : Int) (w : World) (h : ¬ okR q p) :
    Calls Try.prog 37 #[.agg #[.int .i64 q, .int .i64 p]] w fun e w' => e = .returned (.iface 70 (.int .i64 2)) ∧ Below w.heap.size w w' := by
  by_cases h1 : q < 1
  · go_enter Try.func37, Try.ntmps37
    go_wp2
    go_ret
    exact ⟨rfl, (Below.refl _ _).alloc (Nat.le_refl _) _⟩
  · by_cases h2 : 1048576 < p
    · go_enter Try.func37, Try.ntmps37
      go_wp2
      go_ret
      exact ⟨rfl, (Below.refl _ _).alloc (Nat.le_refl _) _⟩
    · have h3 : p < q := by unfold okR at h; omega
      clear h
      go_enter Try.func37, Try.ntmps37
      go_wp2
      go_ret
      exact ⟨rfl, (Below.refl _ _).alloc (Nat.le_refl _) _⟩

/-- A share: of a reservation that may be. -/
def shareOf (q p : Int) : Int := (q * 1048576 + p - 1) / p

theorem share_no (q p : Int) (w : World) (h : ¬ okR q p) :
    Calls Try.prog 44 #[.agg #[.int .i64 q, .int .i64 p]] w fun e w' => e = .returned (.tuple #[.int .i64 0, .iface 70 (.int .i64 2)]) ∧ Below w.heap.size w w' := by
  go_enter Try.func44, Try.ntmps44
  go_wp2_with (go_at_call 37; refine (valid_no q p _ h).mono ?_; rintro e w1 ⟨rfl, hb⟩)
  go_ret2
  exact ⟨rfl, ((Below.refl _ _).alloc (Nat.le_refl _) _).trans (hb.mono (by simp))⟩

theorem share_ok (q p : Int) (w : World) (h : okR q p) :
    Calls Try.prog 44 #[.agg #[.int .i64 q, .int .i64 p]] w fun e w' => e = .returned (.tuple #[.int .i64 (shareOf q p), .nilIface]) ∧ Below w.heap.size w w' := by
  obtain ⟨h1, h2, h3⟩ := id h
  go_enter Try.func44, Try.ntmps44
  go_wp2_with (go_at_call 37; refine (valid_ok q p _ h).mono ?_; rintro e w1 ⟨rfl, hb⟩; obtain ⟨hc, hf⟩ := bcell hb)
  go_ret2
  exact ⟨rfl, ((Below.refl _ _).alloc (Nat.le_refl _) _).trans (hb.mono (by simp))⟩


/-- Is it a time? -/
def isT (n : Int) : Prop := 0 ≤ n ∧ n ≤ 1073741824
theorem time_yes (n : Int) (w : World) (h : isT n) : Calls Try.prog 39 #[.int .i64 n] w fun e w' => e = .returned (.bool true) ∧ w = w' := by
  obtain ⟨h1, h2⟩ := h
  go_enter Try.func39, Try.ntmps39
  go_wp2
  go_ret
  exact ⟨rfl, rfl⟩
theorem time_no (n : Int) (w : World) (h : ¬ isT n) : Calls Try.prog 39 #[.int .i64 n] w fun e w' => e = .returned (.bool false) ∧ w = w' := by
  by_cases h1 : n < 0
  · go_enter Try.func39, Try.ntmps39
    go_wp2
    go_ret
    exact ⟨rfl, rfl⟩
  · have h2 : 1073741824 < n := by unfold isT at h; omega
    clear h
    go_enter Try.func39, Try.ntmps39
    go_wp2
    go_ret
    exact ⟨ret_bool (decide_eq_false (by omega)), rfl⟩
theorem reserve_any (q p s : Int) (w : World) : Calls Try.prog 38 #[.agg #[.int .i64 q, .int .i64 p, .int .i64 s]] w fun e w' => e = .returned (.agg #[.int .i64 q, .int .i64 p]) ∧ Below w.heap.size w w' := by
  go_enter Try.func38, Try.ntmps38
  go_wp2
  exact bodyPost_ret (v := .agg #[.int .i64 q, .int .i64 p]) (by simp [results, Try.results38, go_sem]) rfl ⟨rfl, (by repeat (first | exact Below.refl _ _ | (with_reducible assumption) | refine Below.drew ?_ | (refine Below.alloc ?_ (by first | exact Nat.le_refl _ | omega | (simp; done) | (simp; omega)) _) | (refine Below.setCell ?_ (by first | omega | (simp; done) | (simp; omega)) _)))⟩
end Go.Proofs.Ytfahpjilgdlhiaa
