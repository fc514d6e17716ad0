/- The law's own sure and same: no condition but those that each row names. -/
import Derived.Test.YtknhjbfhkfngeaaNCal
import Derived.Test.YtknhjbfhkfngeaaNApp
namespace Go.Proofs.Ytknhjbfhkfngeaa
open Go.RowKit Go.Maps Hp Cal

set_option maxHeartbeats 1000000 in
theorem sure_any (w : World) : Calls Try.prog 9 #[] w fun e w' => e = .returned (.bool true) ∧ Below w.heap.size w w' := by
  have HN := Lib.hid (cnew_any (B := w.heap.size) w (Nat.le_refl _))
  have HPUT := Lib.hid (show ∀ (w1 : World) (c : Nat) (S : Nat → Prop), CalR w.heap.size S w1 [] c → Below w.heap.size w w1 → Calls Try.prog 5 #[.pointer (some ⟨c, 0, none⟩), .int .i64 2, .int .i64 30] w1 (fun e w' => e = .returned .nilIface ∧ (∃ S', CalR w.heap.size S' w' [(2, 30)] c) ∧ Below w.heap.size w w') from fun w1 c S h hb =>
    (cput_yes h 2 30 ⟨by decide, by decide⟩ (by decide) (by decide) (by simp) hb.size).mono fun e w' ⟨he, ht⟩ => ⟨he, ⟨_, ht.choose_spec.1⟩, ht.under hb h⟩)
  go_enter Try.func9, Try.ntmps9
  go_wp2_with fail
  refine HN.out.mono ?_
  rintro e w1 ⟨c, S, rfl, hc, hb, _⟩
  have HP := Lib.hid (HPUT.out w1 c S hc hb)
  clear hc hb HN HPUT
  go_wp2_with fail
  refine HP.out.mono ?_
  rintro e w2 ⟨rfl, ⟨S2, hc⟩, hb⟩
  have HX := Lib.hid (cnext_any hc ⟨List.pairwise_singleton _ _, List.pairwise_singleton _ _⟩)
  have HB := Lib.hid hb
  clear hc hb
  go_wp2_with fail
  refine HX.out.mono ?_
  rintro e w3 ⟨rfl, hb⟩
  have HB3 := Lib.hid (bnext HB.out hb)
  clear hb
  rw [show nxV [(2, 30)] = 30 from rfl, show nxB [(2, 30)] = true from rfl]
  go_wp2_with fail
  go_ret
  exact ⟨rfl, HB3.out⟩
/-- A row that the call made reads so. -/
def RowOf (w : World) (v : Value) (xs : List Value) (n : Nat) : Prop := ∃ p cap, v = .slice p n cap ∧ ∀ j, j < n → ∃ b off y, p = some ⟨b, off, none⟩ ∧ xs[j]? = some (.int .i64 y) ∧ w.cell? ⟨b, off + j, none⟩ = some (.int .i64 y)
theorem RowOf.of_own {B n : Nat} {w : World} {v : Value} {xs : List Value} (h : w.ownsRow B 3 1 v n xs) (hx : ∀ j, j < n → ∃ y, xs[j]? = some (.int .i64 y)) : RowOf w v xs n := by
  obtain ⟨p, cap, rfl, _⟩ := own_small h
  refine ⟨p, cap, rfl, fun j hj => ?_⟩
  obtain ⟨g, cap', e, _, _⟩ := own_block2 h (by omega)
  cases e
  obtain ⟨y, hy⟩ := hx j hj
  exact ⟨g, 0, y, rfl, hy, by rw [Nat.zero_add, World.ownsRow.cellAt h j (by omega)]; exact hy⟩
theorem RowOf.below {n : Nat} {w w' : World} {v : Value} {xs : List Value} (h : RowOf w v xs n) (hb : Below w.heap.size w w') : RowOf w' v xs n := by
  obtain ⟨p, cap, e, hc⟩ := h
  refine ⟨p, cap, e, fun j hj => ?_⟩
  obtain ⟨b, off, y, e2, hy, c⟩ := hc j hj
  exact ⟨b, off, y, e2, hy, (hb.cell (p := ⟨b, off + j, none⟩) (cell_lt c)).trans c⟩
/-- Ends' and Due's rows are such. -/
theorem ids_row {L : List Pr} {k : Nat} (hk : k ≤ L.length) : ∀ j, j < k → ∃ y, ((L.take k).map fun p => Value.int .i64 p.1)[j]? = some (.int .i64 y) := by
  intro j hj
  refine ⟨L[j].1, ?_⟩
  simp [hj, show j < L.length by omega]
end Go.Proofs.Ytknhjbfhkfngeaa
