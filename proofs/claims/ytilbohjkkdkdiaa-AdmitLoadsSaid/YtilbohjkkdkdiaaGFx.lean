/- Small functions: isSlot, isShare, mayBe, fixed.Most, the law's num; New; Of; for every argument; no condition but those that each row names. -/
import Derived.Test.YtilbohjkkdkdiaaGMem
import Derived.Lib.MinMax
import Derived.Deep.RegionHeld3
namespace Go.Proofs.Ytilbohjkkdkdiaa
open Go.RowKit

theorem as_errno (n : Int) (w : World) : (Instr.typeAssert (.iface 69 (.int .i64 n)) 38 69 true).run Try.prog w = .ok (.tuple #[.int .i64 n, .bool true]) w := by kernel_rfl
theorem num_nil (w : World) : Calls Try.prog 15 #[.nilIface] w fun e w' => e = .returned (.int .i64 0) ∧ w = w' := by
  go_enter Try.func15, Try.ntmps15
  go_wp2_with fail
  go_ret
  exact ⟨rfl, rfl⟩
theorem num_errno (n : Int) (w : World) : Calls Try.prog 15 #[.iface 69 (.int .i64 n)] w fun e w' => e = .returned (.int .i64 n) ∧ w = w' := by
  have ha := as_errno n
  go_enter Try.func15, Try.ntmps15
  go_wp2_with fail
  go_ret
  exact ⟨rfl, rfl⟩
theorem num_any (n : Int) (w : World) : Calls Try.prog 15 #[errV n] w fun e w' => e = .returned (.int .i64 n) ∧ w = w' := by
  by_cases h : n = 0
  · subst h; exact num_nil w
  · rw [errV_ne h]; exact num_errno n w

theorem slot_yes (s : Int) (w : World) (h0 : 0 ≤ s) (h1 : s < 64) : Calls Try.prog 39 #[.int .i64 s] w fun e w' => e = .returned (.bool true) ∧ w = w' := by
  go_enter Try.func39, Try.ntmps39
  go_wp2
  go_ret
  exact ⟨rfl, rfl⟩
theorem slot_no (s : Int) (w : World) (h : s < 0 ∨ 64 ≤ s) : Calls Try.prog 39 #[.int .i64 s] w fun e w' => e = .returned (.bool false) ∧ w = w' := by
  by_cases h0 : 0 ≤ s
  · have h1 : decide (s < 64) = false := decide_eq_false (by omega)
    clear h
    go_enter Try.func39, Try.ntmps39
    go_wp2
    go_ret
    exact ⟨rfl, rfl⟩
  · have h1 : decide (0 ≤ s) = false := decide_eq_false h0
    clear h h0
    go_enter Try.func39, Try.ntmps39
    go_wp2
    go_ret
    exact ⟨rfl, rfl⟩
theorem share_yes (s : Int) (w : World) (h0 : 1 ≤ s) (h1 : s ≤ 1048576) : Calls Try.prog 40 #[.int .i64 s] w fun e w' => e = .returned (.bool true) ∧ w = w' := by
  go_enter Try.func40, Try.ntmps40
  go_wp2
  go_ret
  exact ⟨rfl, rfl⟩
theorem share_no (s : Int) (w : World) (h : s < 1 ∨ 1048576 < s) : Calls Try.prog 40 #[.int .i64 s] w fun e w' => e = .returned (.bool false) ∧ w = w' := by
  by_cases h0 : 1 ≤ s
  · have h1 : decide (s ≤ 1048576) = false := decide_eq_false (by omega)
    clear h
    go_enter Try.func40, Try.ntmps40
    go_wp2
    go_ret
    exact ⟨rfl, rfl⟩
  · have h1 : decide (1 ≤ s) = false := decide_eq_false h0
    clear h h0
    go_enter Try.func40, Try.ntmps40
    go_wp2
    go_ret
    exact ⟨rfl, rfl⟩
theorem rshare_yes (s : Int) (w : World) (h0 : 1 ≤ s) (h1 : s ≤ 1048576) : Calls Try.prog 36 #[.int .i64 s] w fun e w' => e = .returned (.bool true) ∧ w = w' := by
  go_enter Try.func36, Try.ntmps36
  go_wp2
  go_ret
  exact ⟨rfl, rfl⟩
theorem rshare_no (s : Int) (w : World) (h : s < 1 ∨ 1048576 < s) : Calls Try.prog 36 #[.int .i64 s] w fun e w' => e = .returned (.bool false) ∧ w = w' := by
  by_cases h0 : 1 ≤ s
  · have h1 : decide (s ≤ 1048576) = false := decide_eq_false (by omega)
    clear h
    go_enter Try.func36, Try.ntmps36
    go_wp2
    go_ret
    exact ⟨rfl, rfl⟩
  · have h1 : decide (1 ≤ s) = false := decide_eq_false h0
    clear h h0
    go_enter Try.func36, Try.ntmps36
    go_wp2
    go_ret
    exact ⟨rfl, rfl⟩

/-- fixed.Most of units that may be. -/
theorem most_yes (u p : Int) (w : World) (h0 : 0 ≤ u) (h1 : u ≤ 1048576) (h2 : 1 ≤ p) (h3 : p ≤ 1048576) :
    Calls Try.prog 44 #[.int .i64 u, .int .i64 p] w fun e w' => e = .returned (.tuple #[.int .i64 (u * p / 1048576), .nilIface]) ∧ w = w' := by
  have y0 : decide (u < 0) = false := decide_eq_false (by omega)
  have y1 : decide (1048576 < u) = false := decide_eq_false (by omega)
  have y2 : decide (p < 1) = false := decide_eq_false (by omega)
  have y3 : decide (1048576 < p) = false := decide_eq_false (by omega)
  have z0 : 0 ≤ u * p := Int.mul_nonneg h0 (by omega)
  have z1 : u * p ≤ 1048576 * 1048576 := Int.mul_le_mul h1 h3 (by omega) (by omega)
  have z2 : 0 ≤ u * p / 1048576 := by omega
  have z3 : u * p / 1048576 ≤ 1048576 := by omega
  go_enter Try.func44, Try.ntmps44
  go_wp2
  go_ret2
  exact ⟨rfl, rfl⟩
theorem most_no (u p : Int) (w : World) (h0 : 0 ≤ u) (h1 : u ≤ 1048576) (h : p < 1 ∨ 1048576 < p) :
    Calls Try.prog 44 #[.int .i64 u, .int .i64 p] w fun e w' => e = .returned (.tuple #[.int .i64 0, .iface 69 (.int .i64 2)]) ∧ w = w' := by
  have y0 : decide (u < 0) = false := decide_eq_false (by omega)
  have y1 : decide (1048576 < u) = false := decide_eq_false (by omega)
  by_cases h2 : p < 1
  · clear h
    go_enter Try.func44, Try.ntmps44
    go_wp2
    go_ret2
    exact ⟨rfl, rfl⟩
  · have y2 : decide (p < 1) = false := decide_eq_false h2
    have h3 : 1048576 < p := by omega
    clear h h2
    go_enter Try.func44, Try.ntmps44
    go_wp2
    go_ret2
    exact ⟨rfl, rfl⟩

theorem new_any (w : World) : Calls Try.prog 9 #[] w fun e w' => e = .returned (.pointer (some ⟨w.heap.size, 0, none⟩)) ∧ w' = w.alloc (.cells (arr (fun _ => zc)) BT) := by
  go_enter Try.func9, Try.ntmps9
  go_wp2_with (first | (refine wpList_build_book rfl rfl ?_) | (refine wpList_box_arr rfl _ _ rfl (fun _ => zc) rfl ?_))
  go_ret
  exact ⟨rfl, rfl⟩

/-- Of. -/
theorem of_nil (s : Int) (w : World) : Calls Try.prog 19 #[.pointer none, .int .i64 s] w fun e w' => e = .returned (.tuple #[.agg #[.int .i64 0, .int .i64 0, .int .i64 0, .bool false], .bool false]) ∧ Below w.heap.size w w' := by
  go_enter Try.func19, Try.ntmps19
  go_wp2_with fail
  refine bodyPost_ret (v := .tuple #[.agg #[.int .i64 0, .int .i64 0, .int .i64 0, .bool false], .bool false]) (by simp [results, Try.results19, go_sem]) rfl ⟨rfl, ?_⟩
  exact (Below.refl _ _).alloc (Nat.le_refl _) _
theorem of_bad (b : Nat) (s : Int) (w : World) (h : s < 0 ∨ 64 ≤ s) : Calls Try.prog 19 #[.pointer (some ⟨b, 0, none⟩), .int .i64 s] w fun e w' => e = .returned (.tuple #[.agg #[.int .i64 0, .int .i64 0, .int .i64 0, .bool false], .bool false]) ∧ Below w.heap.size w w' := by
  have HS := fun w => Lib.hid (slot_no s w h)
  clear h
  go_enter Try.func19, Try.ntmps19
  go_wp2_with fail
  refine (HS _).out.mono ?_
  rintro e w1 ⟨rfl, rfl⟩
  go_wp2_with fail
  refine bodyPost_ret (v := .tuple #[.agg #[.int .i64 0, .int .i64 0, .int .i64 0, .bool false], .bool false]) (by simp [results, Try.results19, go_sem]) rfl ⟨rfl, ?_⟩
  exact (Below.refl _ _).alloc (Nat.le_refl _) _
set_option maxHeartbeats 1000000 in
theorem of_there (b : Nat) (f : Nat → Cl) (k : Nat) (w : World) (hk : k < 64) (hb : BK BT w b f) (hn : 1 ≤ (f k).n) : Calls Try.prog 19 #[.pointer (some ⟨b, 0, none⟩), .int .i64 k] w fun e w' => e = .returned (.tuple #[.agg #[.int .i64 (f k).s, .int .i64 (f k).n, .int .i64 (f k).x, .bool (f k).d], .bool true]) ∧ Below w.heap.size w w' := by
  have HS := fun w => Lib.hid (slot_yes k w (by omega) (by omega))
  obtain ⟨c0, c1, c2, c3⟩ := hb.cells k hk
  have hlt := hb.lt
  generalize f k = c at *
  obtain ⟨cs, cn, cx, cd⟩ := c
  simp only at hn c0 c1 c2 c3 ⊢
  have y : (cn == 0) = false := by simp; omega
  have hk' : (k : Int) < 64 := by omega
  clear hb hk
  go_enter Try.func19, Try.ntmps19
  go_wp2_with fail
  refine (HS _).out.mono ?_
  rintro e w1 ⟨rfl, rfl⟩
  go_wp2_with fail
  go_region
  all_goals
    go_wp2_with fail
    refine bodyPost_ret (v := .tuple #[.agg #[.int .i64 cs, .int .i64 cn, .int .i64 cx, .bool cd], .bool true]) (by simp [results, Try.results19, go_sem]) rfl ⟨rfl, ?_⟩
    exact (by repeat (first | exact Below.refl _ _ | (with_reducible assumption) | refine Below.drew ?_ | (refine Below.alloc ?_ (by first | exact Nat.le_refl _ | omega | (simp; done) | (simp; omega)) _) | (refine Below.setCell ?_ (by first | omega | (simp; done) | (simp; omega)) _)))
end Go.Proofs.Ytilbohjkkdkdiaa
