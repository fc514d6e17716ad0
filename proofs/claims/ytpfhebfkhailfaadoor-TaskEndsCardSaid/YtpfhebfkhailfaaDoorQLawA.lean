/- The law's own num and same; no condition but those that each row names. -/
import Derived.Test.YtpfhebfkhailfaaDoorQRefG
namespace Go.Proofs.YtpfhebfkhailfaaDoor
open Go.RowKit Tsk

theorem num_nil (w : World) : Calls Tryd.prog 13 #[.nilIface] w fun e w' => e = .returned (.int .i64 0) ∧ w = w' := by
  go_enter Tryd.func13, Tryd.ntmps13
  go_wp2_with fail
  go_ret
  exact ⟨rfl, rfl⟩
theorem as_errno (n : Int) (w : World) : (Instr.typeAssert (.iface 61 (.int .i64 n)) 28 61 true).run Tryd.prog w = .ok (.tuple #[.int .i64 n, .bool true]) w := by kernel_rfl
set_option maxRecDepth 100000 in
theorem num_errno (n : Int) (w : World) : Calls Tryd.prog 13 #[.iface 61 (.int .i64 n)] w fun e w' => e = .returned (.int .i64 n) ∧ w = w' := by
  have ha := as_errno n
  go_enter Tryd.func13, Tryd.ntmps13
  go_wp2_with fail
  go_ret
  exact ⟨rfl, rfl⟩
theorem num_errV (n : Int) (w : World) : Calls Tryd.prog 13 #[errV n] w fun e w' => e = .returned (.int .i64 n) ∧ w = w' := by
  unfold errV
  by_cases h : n = 0
  · rw [if_pos h, h]; exact num_nil w
  · rw [if_neg h]; exact num_errno n w
set_option maxHeartbeats 1000000 in
theorem same_any (p : Int) (s : Value) (n : Nat) (f : Nat → Jb) (k : Ac) (p' : Int) (s' : Value) (n' : Nat) (f' : Nat → Jb) (k' : Ac) (w : World) (h : Jobs w s n f) (h' : Jobs w s' n' f') :
    Calls Tryd.prog 12 #[tV p s k, tV p' s' k'] w fun e w' => e = .returned (.bool (decide (sameT p n f k p' n' f' k'))) ∧ Below w.heap.size w w' := by
  have HS := Lib.hid (fun W (hb : Below w.heap.size w W) => rsame_any p s n f k p' s' n' f' k' W (h.below hb) (h'.below hb))
  obtain ⟨q, cap, rfl, _, _⟩ := h
  obtain ⟨q', cap', rfl, _, _⟩ := h'
  obtain ⟨kg, ko, kn, kd, kc, kt⟩ := k
  obtain ⟨kg', ko', kn', kd', kc', kt'⟩ := k'
  generalize decide (sameT p n f ⟨kg, ko, kn, kd, kc, kt⟩ p' n' f' ⟨kg', ko', kn', kd', kc', kt'⟩) = b at *
  have HB := Lib.hid (show Below w.heap.size w ((w.alloc (.cells #[.int .i64 p, .slice q n cap, .int .i64 kg, .int .i64 ko, .int .i64 kn, .int .i64 kd, .int .i64 kc, .int .i64 kt] KT)).alloc (.cells #[.int .i64 p', .slice q' n' cap', .int .i64 kg', .int .i64 ko', .int .i64 kn', .int .i64 kd', .int .i64 kc', .int .i64 kt'] KT)) from ((Below.refl _ _).alloc (Nat.le_refl _) _).alloc (by simp) _)
  go_enter Tryd.func12, Tryd.ntmps12
  go_wp2_with fail
  refine (HS.out _ HB.out).mono ?_
  rintro e w1 ⟨rfl, hb⟩
  have HB2 := Lib.hid (bnext HB.out hb)
  clear hb
  go_wp2_with fail
  go_ret
  exact ⟨rfl, HB2.out⟩
/-- Two tasks that are alike. -/
theorem same_yes {p : Int} {n : Nat} {f : Nat → Jb} {k : Ac} {f' : Nat → Jb} (h : ∀ i, i < n → f i = f' i) : decide (sameT p n f k p n f' k) = true := decide_eq_true ⟨rfl, rfl, rfl, h⟩
end Go.Proofs.YtpfhebfkhailfaaDoor
