/- Of the packages fixed and titheref01: what Valid, Share, Units answer, for every reservation; no condition but those that each row names. -/
import Derived.Test.YtbkbmpnhjmcenaaDoorProg
import Derived.WalkKit
import Derived.WalkSpells
import Derived.WalkLawsBesides
import Derived.Lib.Hide
namespace Go.Proofs.YtbkbmpnhjmcenaaDoor
open Go.RowKit

/-- May a reservation be? -/
def okR (q p : Int) : Prop := 1 ≤ q ∧ q ≤ p ∧ p ≤ 1048576

/-- What lay below reads as it did. -/
theorem bcell {W w1 : World} (hb : Below W.heap.size W w1) : (∀ b o, b < W.heap.size → w1.cell? ⟨b, o, none⟩ = W.cell? ⟨b, o, none⟩) ∧ (∀ b o, b < W.heap.size → w1.frozen? ⟨b, o, none⟩ = W.frozen? ⟨b, o, none⟩) :=
  ⟨fun b o h => hb.cell (p := ⟨b, o, none⟩) h, fun b o h => hb.frozen (p := ⟨b, o, none⟩) h⟩

theorem bnext {w a b : World} (h : Below w.heap.size w a) (k : Below a.heap.size a b) : Below w.heap.size w b := h.trans (k.mono h.size)

theorem valid_ok (q p : Int) (w : World) (h : okR q p) :
    Calls Tryd.prog 21 #[.agg #[.int .i64 q, .int .i64 p]] w fun e w' => e = .returned .nilIface ∧ Below w.heap.size w w' := by
  obtain ⟨h1, h2, h3⟩ := h
  go_enter Tryd.func21, Tryd.ntmps21
  go_wp2
  go_ret
  exact ⟨rfl, (Below.refl _ _).alloc (Nat.le_refl _) _⟩

theorem valid_no (q p : Int) (w : World) (h : ¬ okR q p) :
    Calls Tryd.prog 21 #[.agg #[.int .i64 q, .int .i64 p]] w fun e w' => e = .returned (.iface 49 (.int .i64 2)) ∧ Below w.heap.size w w' := by
  by_cases h1 : q < 1
  · go_enter Tryd.func21, Tryd.ntmps21
    go_wp2
    go_ret
    exact ⟨rfl, (Below.refl _ _).alloc (Nat.le_refl _) _⟩
  · by_cases h2 : 1048576 < p
    · go_enter Tryd.func21, Tryd.ntmps21
      go_wp2
      go_ret
      exact ⟨rfl, (Below.refl _ _).alloc (Nat.le_refl _) _⟩
    · have h3 : p < q := by unfold okR at h; omega
      clear h
      go_enter Tryd.func21, Tryd.ntmps21
      go_wp2
      go_ret
      exact ⟨rfl, (Below.refl _ _).alloc (Nat.le_refl _) _⟩

/-- A share: of a reservation that may be. -/
def shareOf (q p : Int) : Int := (q * 1048576 + p - 1) / p

theorem share_no (q p : Int) (w : World) (h : ¬ okR q p) :
    Calls Tryd.prog 26 #[.agg #[.int .i64 q, .int .i64 p]] w fun e w' => e = .returned (.tuple #[.int .i64 0, .iface 49 (.int .i64 2)]) ∧ Below w.heap.size w w' := by
  go_enter Tryd.func26, Tryd.ntmps26
  go_wp2_with (go_at_call 21; refine (valid_no q p _ h).mono ?_; rintro e w1 ⟨rfl, hb⟩)
  go_ret2
  exact ⟨rfl, ((Below.refl _ _).alloc (Nat.le_refl _) _).trans (hb.mono (by simp))⟩

theorem share_ok (q p : Int) (w : World) (h : okR q p) :
    Calls Tryd.prog 26 #[.agg #[.int .i64 q, .int .i64 p]] w fun e w' => e = .returned (.tuple #[.int .i64 (shareOf q p), .nilIface]) ∧ Below w.heap.size w w' := by
  obtain ⟨h1, h2, h3⟩ := id h
  go_enter Tryd.func26, Tryd.ntmps26
  go_wp2_with (go_at_call 21; refine (valid_ok q p _ h).mono ?_; rintro e w1 ⟨rfl, hb⟩; obtain ⟨hc, hf⟩ := bcell hb)
  go_ret2
  exact ⟨rfl, ((Below.refl _ _).alloc (Nat.le_refl _) _).trans (hb.mono (by simp))⟩

theorem rvalid_ok (q p : Int) (w : World) (h : okR q p) :
    Calls Tryd.prog 23 #[.agg #[.int .i64 q, .int .i64 p]] w fun e w' => e = .returned (.int .i64 0) ∧ Below w.heap.size w w' := by
  obtain ⟨h1, h2, h3⟩ := h
  go_enter Tryd.func23, Tryd.ntmps23
  go_wp2
  go_ret
  exact ⟨rfl, (Below.refl _ _).alloc (Nat.le_refl _) _⟩

theorem rvalid_no (q p : Int) (w : World) (h : ¬ okR q p) :
    Calls Tryd.prog 23 #[.agg #[.int .i64 q, .int .i64 p]] w fun e w' => e = .returned (.int .i64 2) ∧ Below w.heap.size w w' := by
  by_cases h1 : q < 1
  · go_enter Tryd.func23, Tryd.ntmps23
    go_wp2
    go_ret
    exact ⟨rfl, (Below.refl _ _).alloc (Nat.le_refl _) _⟩
  · by_cases h2 : 1048576 < p
    · go_enter Tryd.func23, Tryd.ntmps23
      go_wp2
      go_ret
      exact ⟨rfl, (Below.refl _ _).alloc (Nat.le_refl _) _⟩
    · have h3 : p < q := by unfold okR at h; omega
      clear h
      go_enter Tryd.func23, Tryd.ntmps23
      go_wp2
      go_ret
      exact ⟨rfl, (Below.refl _ _).alloc (Nat.le_refl _) _⟩

theorem runits_ok (q p : Int) (w : World) (h : okR q p) :
    Calls Tryd.prog 32 #[.agg #[.int .i64 q, .int .i64 p]] w fun e w' => e = .returned (.int .i64 (shareOf q p)) ∧ Below w.heap.size w w' := by
  obtain ⟨h1, h2, h3⟩ := h
  go_enter Tryd.func32, Tryd.ntmps32
  go_wp2
  go_ret
  exact ⟨rfl, (Below.refl _ _).alloc (Nat.le_refl _) _⟩
end Go.Proofs.YtbkbmpnhjmcenaaDoor
