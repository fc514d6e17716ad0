/- The document's own answers for numbers (package titheref01): Valid, Units, Share, Most, Compare, for every input. -/
import Derived.Test.YtlhgopdlpjmbhaaDoorFx
namespace Go.Proofs.YtlhgopdlpjmbhaaDoor
open Go.RowKit

theorem rvalid_ok (q p : Int) (w : World) (h : okR q p) :
    Calls Tryd.prog 13 #[.agg #[.int .i64 q, .int .i64 p]] w fun e w' => e = .returned (.int .i64 0) ∧ Below w.heap.size w w' := by
  obtain ⟨h1, h2, h3⟩ := h
  go_enter Tryd.func13, Tryd.ntmps13
  go_wp2
  go_ret
  exact ⟨rfl, (Below.refl _ _).alloc (Nat.le_refl _) _⟩

theorem rvalid_no (q p : Int) (w : World) (h : ¬ okR q p) :
    Calls Tryd.prog 13 #[.agg #[.int .i64 q, .int .i64 p]] w fun e w' => e = .returned (.int .i64 2) ∧ Below w.heap.size w w' := by
  by_cases h1 : q < 1
  · go_enter Tryd.func13, Tryd.ntmps13
    go_wp2
    go_ret
    exact ⟨rfl, (Below.refl _ _).alloc (Nat.le_refl _) _⟩
  · by_cases h2 : 1048576 < p
    · go_enter Tryd.func13, Tryd.ntmps13
      go_wp2
      go_ret
      exact ⟨rfl, (Below.refl _ _).alloc (Nat.le_refl _) _⟩
    · have h3 : p < q := by unfold okR at h; omega
      clear h
      go_enter Tryd.func13, Tryd.ntmps13
      go_wp2
      go_ret
      exact ⟨rfl, (Below.refl _ _).alloc (Nat.le_refl _) _⟩
end Go.Proofs.YtlhgopdlpjmbhaaDoor
