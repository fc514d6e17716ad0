/- The law's own num and works: a queue of two strings is made, filled, asked; no condition. -/
import Derived.Test.YtdpchojfgcjbeaaFDropS
import Derived.Test.YtdpchojfgcjbeaaFPush
namespace Go.Proofs.Ytdpchojfgcjbeaa
open Go.RowKit

theorem num_nil (w : World) : Calls Try.prog 10 #[.nilIface] w fun e w' => e = .returned (.int .i64 0) ∧ w = w' := by
  go_enter Try.func10, Try.ntmps10
  go_wp2_with fail
  go_ret
  exact ⟨rfl, rfl⟩
theorem as_errno (n : Int) (w : World) : (Instr.typeAssert (.iface 78 (.int .i64 n)) 25 78 true).run Try.prog w = .ok (.tuple #[.int .i64 n, .bool true]) w := by kernel_rfl
set_option maxRecDepth 100000 in
theorem num_errno (n : Int) (w : World) : Calls Try.prog 10 #[.iface 78 (.int .i64 n)] w fun e w' => e = .returned (.int .i64 n) ∧ w = w' := by
  have ha := as_errno n
  go_enter Try.func10, Try.ntmps10
  go_wp2_with fail
  go_ret
  exact ⟨rfl, rfl⟩
theorem num_any (n : Int) (w : World) : Calls Try.prog 10 #[errV n] w fun e w' => e = .returned (.int .i64 n) ∧ w = w' := by
  by_cases h : n = 0
  · subst h; exact num_nil w
  · rw [errV_ne h]; exact num_errno n w

abbrev wA : Value := .string ⟨#[97]⟩
abbrev wB : Value := .string ⟨#[98]⟩
def q0 : Qu := ⟨2, [], 0⟩
def q1 : Qu := ⟨2, [(wA, 1)], 1⟩
def q2 : Qu := ⟨2, [(wA, 1), (wB, 2)], 2⟩
def q3 : Qu := ⟨2, [(wB, 2)], 2⟩
theorem g0 : q0.Good 1 := good_new (by omega) (by omega)
theorem g1 : q1.Good 1 := good_push_S g0 ⟨#[97]⟩ (by decide)
theorem g2 : q2.Good 1 := good_push_S g1 ⟨#[98]⟩ (by decide)
theorem g3 : q3.Good 1 := g2.drop 0

set_option maxHeartbeats 4000000 in
set_option maxRecDepth 100000 in
theorem works_any (w : World) : Calls Try.prog 11 #[] w fun e w' => e = .returned (.bool true) ∧ Below w.heap.size w w' := by
  have e0 := errV_0
  have e1 := errV_ne (n := 1) (by decide)
  have e40 := errV_ne (n := 40) (by decide)
  go_enter Try.func11, Try.ntmps11
  go_wp2_with fail
  refine (new_yes_S _ 2 (by omega) (by omega)).mono ?_
  rintro e w1 ⟨rfl, hw1⟩
  have h1 := Lib.hid (show PQ QT_S ET_S 1 w.heap.size w1 q0 w.heap.size (.slice none 0 0) from hw1 ▸ PQ.new (Nat.le_refl _) 2)
  have b1 := Lib.hid (show Below w.heap.size w w1 from hw1 ▸ (Below.refl _ w).alloc (Nat.le_refl _) _)
  clear hw1
  go_wp2_with fail
  refine (push_yes_S _ q0 g0 _ _ _ h1.out ⟨#[97]⟩ (by decide) (by decide) b1.out.size).mono ?_
  rintro e w2 ⟨rfl, s2, h2', k2, _⟩
  have b2 := Lib.hid (b1.out.trans (h1.out.under k2))
  have h2 := Lib.hid (show PQ QT_S ET_S 1 w.heap.size w2 q1 w.heap.size s2 from h2')
  clear h2' k2
  go_wp2_with fail
  refine (push_yes_S _ q1 g1 _ _ _ h2.out ⟨#[98]⟩ (by decide) (by decide) b2.out.size).mono ?_
  rintro e w3 ⟨rfl, s3, h3', k3, _⟩
  have b3 := Lib.hid (b2.out.trans (h2.out.under k3))
  have h3 := Lib.hid (show PQ QT_S ET_S 1 w.heap.size w3 q2 w.heap.size s3 from h3')
  clear h3' k3
  go_wp2_with fail
  refine (push_no_S 1 _ q2 g2 _ _ _ h3.out ⟨#[99]⟩ (by decide)).mono ?_
  rintro e w4 ⟨rfl, rfl⟩
  go_wp2_with fail
  refine (pop_of_S _ _ _ _ _ ((drop_yes_S _ q2 g2 _ _ _ h3.out 0 (by decide) ⟨#[97]⟩ rfl).mono fun e w' h => ⟨h.1, h.2⟩)).mono ?_
  rintro e w4 ⟨rfl, s4, h4', k4, _⟩
  have b4 := Lib.hid (b3.out.trans (h3.out.under k4))
  have h4 := Lib.hid (show PQ QT_S ET_S 1 w.heap.size w4 q3 w.heap.size s4 from h4')
  clear h4' k4
  go_wp2_with fail
  refine (head_of_S _ _ _ _ (at_yes_S _ q3 g3 _ _ _ h4.out 0 (by decide) ⟨#[98]⟩ rfl)).mono ?_
  rintro e w5 ⟨rfl, rfl⟩
  go_wp2_with fail
  refine (new_no_I _ 0 (.inl (by omega))).mono ?_
  rintro e w5 ⟨rfl, rfl⟩
  go_wp2_with fail
  refine (num_errno 40 _).mono ?_
  rintro e w5 ⟨rfl, rfl⟩
  go_wp2_with fail
  refine (len_S 1 _ q3 _ _ _ h4.out).mono ?_
  rintro e w5 ⟨rfl, rfl⟩
  go_wp2_with fail
  refine (room_S 1 _ q3 g3 _ _ _ h4.out).mono ?_
  rintro e w5 ⟨rfl, rfl⟩
  go_wp2_with fail
  refine (num_errno 1 _).mono ?_
  rintro e w5 ⟨rfl, rfl⟩
  go_wp2_with fail
  go_ret
  exact ⟨rfl, b4.out⟩
end Go.Proofs.Ytdpchojfgcjbeaa
