/- The laws' own same and sure: two budgets that are the same; what must come whatever the input is; no condition. -/
import Derived.Test.YtbkbmpnhjmcenaaDoorBRef
namespace Go.Proofs.YtbkbmpnhjmcenaaDoor
open Go.RowKit

set_option maxHeartbeats 1000000 in
theorem same_refl (q p nq np : Int) (d : Bool) (l s y : Int) (w : World) :
    Calls Tryd.prog 8 #[.agg #[.int .i64 q, .int .i64 p, .int .i64 nq, .int .i64 np, .bool d, .int .i64 l, .int .i64 s, .int .i64 y], .agg #[.int .i64 q, .int .i64 p, .int .i64 nq, .int .i64 np, .bool d, .int .i64 l, .int .i64 s, .int .i64 y]] w fun e w' => e = .returned (.bool true) ∧ Below w.heap.size w w' := by
  go_enter Tryd.func8, Tryd.ntmps8
  go_wp2
  go_ret
  exact ⟨rfl, ((Below.refl _ _).alloc (Nat.le_refl _) _).alloc (by simp) _⟩

theorem okB_25 : okB 2 5 0 0 2 10 15 := ⟨⟨by omega, by omega, by omega⟩, .inl ⟨rfl, rfl⟩, by omega, by omega, by omega, by omega, by omega⟩

set_option maxHeartbeats 1000000 in
theorem sure_any (w : World) : Calls Tryd.prog 10 #[] w fun e w' => e = .returned (.bool true) ∧ Below w.heap.size w w' := by
  go_enter Tryd.func10, Tryd.ntmps10
  go_wp2_with fail
  refine (new_ok 2 5 10 _ ⟨by omega, by omega, by omega⟩ (by omega) (by omega)).mono ?_
  rintro e w1 ⟨rfl, hb1⟩
  go_wp2_with fail
  refine (take_ok 2 5 0 0 false 2 10 15 _ okB_25 (by omega)).mono ?_
  rintro e w2 ⟨rfl, hb2⟩
  obtain ⟨hc2, hf2⟩ := bcell hb2
  have hz : w1.heap.size < w2.heap.size := by have := hb2.size; simp at this; omega
  go_wp2_with fail
  go_ret
  exact ⟨rfl, ((bnext ((hb1).alloc (hb1.size) _) hb2).alloc (Nat.le_of_lt (Nat.lt_of_le_of_lt hb1.size hz)) _)⟩
end Go.Proofs.YtbkbmpnhjmcenaaDoor
