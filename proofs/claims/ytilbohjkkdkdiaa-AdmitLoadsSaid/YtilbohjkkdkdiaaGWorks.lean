/- The law's own works; AdmitNone's walk; no condition. -/
import Derived.Test.YtilbohjkkdkdiaaGCross
import Derived.Test.YtilbohjkkdkdiaaGList
namespace Go.Proofs.Ytilbohjkkdkdiaa
open Go.RowKit

theorem turn_below {b B : Nat} {w W W' : World} (h : Below B w W) (hb : B ≤ b) (hW : B ≤ W.heap.size) (hk : Keeps (fun x => x = b) W W') : Below B w W' := h.trans (hk.below hW (fun x e => by rw [e]; exact hb))
def wF1 : Nat → Cl := addF (fun _ => zc) 0 600000
def wF2 : Nat → Cl := addF wF1 1 500000
def wF3 : Nat → Cl := resF wF2 0 100000
def wF4 : Nat → Cl := croF wF3 0
theorem w_e1 : addE (fun _ => zc) 0 600000 = 0 := by decide +kernel
theorem w_e2 : addE wF1 1 500000 = 80 := by decide +kernel
theorem w_e3 : resE wF2 0 100000 = 0 := by decide +kernel
theorem w_e4 : croE wF3 0 = 0 := by decide +kernel
theorem w_e5 : croW wF3 0 = 1 := by decide +kernel
theorem w_s3 : sumTo wF3 64 = 600000 := by decide +kernel
theorem w_s4 : sumTo wF4 64 = 100000 := by decide +kernel
theorem w_g1 : Good wF1 := add_good good_none _ _
theorem w_g2 : Good wF2 := add_good w_g1 _ _
theorem w_g3 : Good wF3 := res_good w_g2 _ _
theorem w_g4 : Good wF4 := cro_good w_g3 _

theorem w_1 (b : Nat) (w : World) (hb : BK BT w b (fun _ => zc)) : Calls Try.prog 20 #[.pointer (some ⟨b, 0, none⟩), .int .i64 0, .int .i64 600000] w (Turns b wF1 .nilIface w) := by
  have := add_any b _ 0 600000 w hb good_none
  rw [w_e1] at this; exact this
theorem w_2 (b : Nat) (w : World) (hb : BK BT w b wF1) : Calls Try.prog 20 #[.pointer (some ⟨b, 0, none⟩), .int .i64 1, .int .i64 500000] w (Turns b wF2 (.iface 69 (.int .i64 80)) w) := by
  have := add_any b _ 1 500000 w hb w_g1
  rw [w_e2] at this; exact this
theorem w_3 (b : Nat) (w : World) (hb : BK BT w b wF2) : Calls Try.prog 21 #[.pointer (some ⟨b, 0, none⟩), .int .i64 0, .int .i64 100000] w (Turns b wF3 .nilIface w) := by
  have := resize_any b _ 0 100000 w hb w_g2
  rw [w_e3] at this; exact this
theorem w_4 (b : Nat) (w : World) (hb : BK BT w b wF3) : Calls Try.prog 23 #[.pointer (some ⟨b, 0, none⟩)] w fun e w' => e = .returned (.int .i64 600000) ∧ Below w.heap.size w w' := by
  have := sum_book b _ w hb w_g3.small
  rw [w_s3] at this; exact this
theorem w_5 (b : Nat) (w : World) (hb : BK BT w b wF3) : Calls Try.prog 18 #[.pointer (some ⟨b, 0, none⟩), .int .i64 0] w (Turns b wF4 (.tuple #[.int .i64 1, .nilIface]) w) := by
  have := cross_any b _ 0 w hb w_g3
  rw [w_e4, w_e5] at this; exact this
theorem w_6 (b : Nat) (w : World) (hb : BK BT w b wF4) : Calls Try.prog 23 #[.pointer (some ⟨b, 0, none⟩)] w fun e w' => e = .returned (.int .i64 100000) ∧ Below w.heap.size w w' := by
  have := sum_book b _ w hb w_g4.small
  rw [w_s4] at this; exact this
theorem w_7 (b : Nat) (w : World) (hb : BK BT w b wF4) : Calls Try.prog 24 #[.pointer (some ⟨b, 0, none⟩)] w fun e w' => e = .returned (.int .i64 948576) ∧ Below w.heap.size w w' := by
  have := free_book b _ w hb w_g4.small
  rw [w_s4] at this; exact this

set_option maxHeartbeats 2000000 in
theorem works_any (w : World) : Calls Try.prog 12 #[] w fun e w' => e = .returned (.bool true) ∧ Below w.heap.size w w' := by
  have HN := Lib.hid fun w => new_any w
  have H1 := Lib.hid (BK.new BT w (fun _ => zc))
  have HB1 := Lib.hid ((Below.refl w.heap.size w).alloc (Nat.le_refl _) (.cells (arr (fun _ => zc)) BT))
  go_enter Try.func12, Try.ntmps12
  go_wp2_with fail
  refine (HN.out _).mono ?_
  rintro e w1 ⟨rfl, hw1⟩
  rw [← hw1] at H1 HB1
  clear hw1 HN
  go_wp2_with fail
  refine (w_1 _ _ H1.out).mono ?_
  rintro e w2 ⟨rfl, hb2, hk2⟩
  have H2 := Lib.hid hb2
  have HB2 := Lib.hid (turn_below HB1.out (Nat.le_refl _) HB1.out.size hk2)
  clear hb2 hk2 H1 HB1
  go_wp2_with fail
  refine (w_2 _ _ H2.out).mono ?_
  rintro e w3 ⟨rfl, hb3, hk3⟩
  have H3 := Lib.hid hb3
  have HB3 := Lib.hid (turn_below HB2.out (Nat.le_refl _) HB2.out.size hk3)
  clear hb3 hk3 H2 HB2
  go_wp2_with fail
  refine (w_3 _ _ H3.out).mono ?_
  rintro e w4 ⟨rfl, hb4, hk4⟩
  have H4 := Lib.hid hb4
  have HB4 := Lib.hid (turn_below HB3.out (Nat.le_refl _) HB3.out.size hk4)
  clear hb4 hk4 H3 HB3
  go_wp2_with fail
  refine (w_4 _ _ H4.out).mono ?_
  rintro e w5 ⟨rfl, hb5⟩
  have H5 := Lib.hid (H4.out.below hb5)
  have HB5 := Lib.hid (bnext HB4.out hb5)
  clear hb5 H4 HB4
  go_wp2_with fail
  refine (w_5 _ _ H5.out).mono ?_
  rintro e w6 ⟨rfl, hb6, hk6⟩
  have H6 := Lib.hid hb6
  have HB6 := Lib.hid (turn_below HB5.out (Nat.le_refl _) HB5.out.size hk6)
  clear hb6 hk6 H5 HB5
  go_wp2_with fail
  refine (num_errno 80 _).mono ?_
  rintro e w7 ⟨rfl, rfl⟩
  go_wp2_with fail
  refine (w_6 _ _ H6.out).mono ?_
  rintro e w8 ⟨rfl, hb8⟩
  have H8 := Lib.hid (H6.out.below hb8)
  have HB8 := Lib.hid (bnext HB6.out hb8)
  clear hb8 H6 HB6
  go_wp2_with fail
  refine (w_7 _ _ H8.out).mono ?_
  rintro e w9 ⟨rfl, hb9⟩
  have HB9 := Lib.hid (bnext HB8.out hb9)
  clear hb9 H8 HB8
  go_wp2_with fail
  go_ret
  exact ⟨rfl, HB9.out⟩

theorem cross_nil (s : Int) (w : World) : Calls Try.prog 18 #[.pointer none, .int .i64 s] w fun e w' => e = .returned (.tuple #[.int .i64 0, .iface 69 (.int .i64 50)]) ∧ Below w.heap.size w w' := cross_err _ s 50 w (claim_nil s w)
theorem resize_nil (s n : Int) (w : World) : Calls Try.prog 21 #[.pointer none, .int .i64 s, .int .i64 n] w fun e w' => e = .returned (.iface 69 (.int .i64 50)) ∧ Below w.heap.size w w' := resize_err _ s n 50 w (living_nil s w)
theorem die_nil (s : Int) (w : World) : Calls Try.prog 22 #[.pointer none, .int .i64 s] w fun e w' => e = .returned (.iface 69 (.int .i64 50)) ∧ Below w.heap.size w w' := die_err _ s 50 w (living_nil s w)
set_option maxHeartbeats 4000000 in
set_option maxRecDepth 100000 in
theorem none_any (kind s n : Int) (w : World) : Calls Try.prog 5 #[.agg #[.int .i64 kind, .int .i64 s, .int .i64 n]] w fun e w' => e = .returned (.bool true) ∧ Below w.heap.size w w' := by
  have HB0 := Lib.hid ((Below.refl w.heap.size w).alloc (Nat.le_refl _) (.cells #[.int .i64 kind, .int .i64 s, .int .i64 n] 29))
  have HA0 := Lib.hid (heap_alloc_new w (.cells #[.int .i64 kind, .int .i64 s, .int .i64 n] 29))
  go_enter Try.func5, Try.ntmps5
  go_wp2_with fail
  refine (cross_nil _ _).mono ?_
  rintro e w1 ⟨rfl, hb1⟩
  have HB1 := Lib.hid (bnext HB0.out hb1)
  have HA1 := Lib.hid ((hb1.block _ (lt_of_block HA0.out)).trans HA0.out)
  clear hb1
  have l_1 : w.heap.size < w1.heap.size := lt_of_block HA1.out
  have c0_1 : w1.cell? ⟨w.heap.size, 0, none⟩ = some (.int .i64 kind) := (cell_of_row _ _ _ _ _ _ HA1.out).trans rfl
  have c1_1 : w1.cell? ⟨w.heap.size, 1, none⟩ = some (.int .i64 s) := (cell_of_row _ _ _ _ _ _ HA1.out).trans rfl
  have c2_1 : w1.cell? ⟨w.heap.size, 2, none⟩ = some (.int .i64 n) := (cell_of_row _ _ _ _ _ _ HA1.out).trans rfl
  go_wp2_with fail
  refine (of_nil _ _).mono ?_
  rintro e w2 ⟨rfl, hb2⟩
  have HB2 := Lib.hid (bnext HB1.out hb2)
  have HA2 := Lib.hid ((hb2.block _ (lt_of_block HA1.out)).trans HA1.out)
  clear hb2 c0_1 c1_1 c2_1
  have l_2 : w.heap.size < w2.heap.size := lt_of_block HA2.out
  have c0_2 : w2.cell? ⟨w.heap.size, 0, none⟩ = some (.int .i64 kind) := (cell_of_row _ _ _ _ _ _ HA2.out).trans rfl
  have c1_2 : w2.cell? ⟨w.heap.size, 1, none⟩ = some (.int .i64 s) := (cell_of_row _ _ _ _ _ _ HA2.out).trans rfl
  have c2_2 : w2.cell? ⟨w.heap.size, 2, none⟩ = some (.int .i64 n) := (cell_of_row _ _ _ _ _ _ HA2.out).trans rfl
  go_wp2_with fail
  refine (add_nil _ _ _).mono ?_
  rintro e w3 ⟨rfl, hb3⟩
  have HB3 := Lib.hid (bnext ((HB2.out).alloc HB2.out.size _) hb3)
  have HA3 := Lib.hid ((hb3.block _ (by have := lt_of_block HA2.out; simp; omega)).trans ((Below.heap_alloc _ _ _ (lt_of_block HA2.out)).trans HA2.out))
  have HC3 := Lib.hid ((hb3.block _ (by simp)).trans (heap_alloc_new w2 _))
  have hzc : w2.heap.size < w3.heap.size := by have := hb3.size; simp at this; omega
  clear hb3 c0_2 c1_2 c2_2
  have l_3 : w.heap.size < w3.heap.size := lt_of_block HA3.out
  have c0_3 : w3.cell? ⟨w.heap.size, 0, none⟩ = some (.int .i64 kind) := (cell_of_row _ _ _ _ _ _ HA3.out).trans rfl
  have c1_3 : w3.cell? ⟨w.heap.size, 1, none⟩ = some (.int .i64 s) := (cell_of_row _ _ _ _ _ _ HA3.out).trans rfl
  have c2_3 : w3.cell? ⟨w.heap.size, 2, none⟩ = some (.int .i64 n) := (cell_of_row _ _ _ _ _ _ HA3.out).trans rfl
  have d0_3 : w3.cell? ⟨w2.heap.size, 0, none⟩ = some (.int .i64 0) := (cell_of_row _ _ _ _ _ _ HC3.out).trans rfl
  have d1_3 : w3.cell? ⟨w2.heap.size, 1, none⟩ = some (.int .i64 0) := (cell_of_row _ _ _ _ _ _ HC3.out).trans rfl
  have d2_3 : w3.cell? ⟨w2.heap.size, 2, none⟩ = some (.int .i64 0) := (cell_of_row _ _ _ _ _ _ HC3.out).trans rfl
  have d3_3 : w3.cell? ⟨w2.heap.size, 3, none⟩ = some (.bool false) := (cell_of_row _ _ _ _ _ _ HC3.out).trans rfl
  go_wp2_with fail
  refine (num_errno 50 _).mono ?_
  rintro e w4n ⟨rfl, rfl⟩
  go_wp2_with fail
  refine (resize_nil _ _ _).mono ?_
  rintro e w4 ⟨rfl, hb4⟩
  have HB4 := Lib.hid (bnext HB3.out hb4)
  have HA4 := Lib.hid ((hb4.block _ (lt_of_block HA3.out)).trans HA3.out)
  have HC4 := Lib.hid ((hb4.block _ (lt_of_block HC3.out)).trans HC3.out)
  clear hb4 c0_3 c1_3 c2_3 d0_3 d1_3 d2_3 d3_3
  have l_4 : w.heap.size < w4.heap.size := lt_of_block HA4.out
  have c0_4 : w4.cell? ⟨w.heap.size, 0, none⟩ = some (.int .i64 kind) := (cell_of_row _ _ _ _ _ _ HA4.out).trans rfl
  have c1_4 : w4.cell? ⟨w.heap.size, 1, none⟩ = some (.int .i64 s) := (cell_of_row _ _ _ _ _ _ HA4.out).trans rfl
  have c2_4 : w4.cell? ⟨w.heap.size, 2, none⟩ = some (.int .i64 n) := (cell_of_row _ _ _ _ _ _ HA4.out).trans rfl
  have d0_4 : w4.cell? ⟨w2.heap.size, 0, none⟩ = some (.int .i64 0) := (cell_of_row _ _ _ _ _ _ HC4.out).trans rfl
  have d1_4 : w4.cell? ⟨w2.heap.size, 1, none⟩ = some (.int .i64 0) := (cell_of_row _ _ _ _ _ _ HC4.out).trans rfl
  have d2_4 : w4.cell? ⟨w2.heap.size, 2, none⟩ = some (.int .i64 0) := (cell_of_row _ _ _ _ _ _ HC4.out).trans rfl
  have d3_4 : w4.cell? ⟨w2.heap.size, 3, none⟩ = some (.bool false) := (cell_of_row _ _ _ _ _ _ HC4.out).trans rfl
  go_wp2_with fail
  refine (num_errno 50 _).mono ?_
  rintro e w5n ⟨rfl, rfl⟩
  go_wp2_with fail
  refine (die_nil _ _).mono ?_
  rintro e w5 ⟨rfl, hb5⟩
  have HB5 := Lib.hid (bnext HB4.out hb5)
  have HA5 := Lib.hid ((hb5.block _ (lt_of_block HA4.out)).trans HA4.out)
  have HC5 := Lib.hid ((hb5.block _ (lt_of_block HC4.out)).trans HC4.out)
  clear hb5 c0_4 c1_4 c2_4 d0_4 d1_4 d2_4 d3_4
  have l_5 : w.heap.size < w5.heap.size := lt_of_block HA5.out
  have c0_5 : w5.cell? ⟨w.heap.size, 0, none⟩ = some (.int .i64 kind) := (cell_of_row _ _ _ _ _ _ HA5.out).trans rfl
  have c1_5 : w5.cell? ⟨w.heap.size, 1, none⟩ = some (.int .i64 s) := (cell_of_row _ _ _ _ _ _ HA5.out).trans rfl
  have c2_5 : w5.cell? ⟨w.heap.size, 2, none⟩ = some (.int .i64 n) := (cell_of_row _ _ _ _ _ _ HA5.out).trans rfl
  have d0_5 : w5.cell? ⟨w2.heap.size, 0, none⟩ = some (.int .i64 0) := (cell_of_row _ _ _ _ _ _ HC5.out).trans rfl
  have d1_5 : w5.cell? ⟨w2.heap.size, 1, none⟩ = some (.int .i64 0) := (cell_of_row _ _ _ _ _ _ HC5.out).trans rfl
  have d2_5 : w5.cell? ⟨w2.heap.size, 2, none⟩ = some (.int .i64 0) := (cell_of_row _ _ _ _ _ _ HC5.out).trans rfl
  have d3_5 : w5.cell? ⟨w2.heap.size, 3, none⟩ = some (.bool false) := (cell_of_row _ _ _ _ _ _ HC5.out).trans rfl
  go_wp2_with fail
  refine (num_errno 50 _).mono ?_
  rintro e w6n ⟨rfl, rfl⟩
  go_wp2_with fail
  refine (num_errno 50 _).mono ?_
  rintro e w6n ⟨rfl, rfl⟩
  go_wp2_with fail
  refine (sum_nil _).mono ?_
  rintro e w6 ⟨rfl, hb6⟩
  have HB6 := Lib.hid (bnext HB5.out hb6)
  have HA6 := Lib.hid ((hb6.block _ (lt_of_block HA5.out)).trans HA5.out)
  have HC6 := Lib.hid ((hb6.block _ (lt_of_block HC5.out)).trans HC5.out)
  clear hb6 c0_5 c1_5 c2_5 d0_5 d1_5 d2_5 d3_5
  have l_6 : w.heap.size < w6.heap.size := lt_of_block HA6.out
  have c0_6 : w6.cell? ⟨w.heap.size, 0, none⟩ = some (.int .i64 kind) := (cell_of_row _ _ _ _ _ _ HA6.out).trans rfl
  have c1_6 : w6.cell? ⟨w.heap.size, 1, none⟩ = some (.int .i64 s) := (cell_of_row _ _ _ _ _ _ HA6.out).trans rfl
  have c2_6 : w6.cell? ⟨w.heap.size, 2, none⟩ = some (.int .i64 n) := (cell_of_row _ _ _ _ _ _ HA6.out).trans rfl
  have d0_6 : w6.cell? ⟨w2.heap.size, 0, none⟩ = some (.int .i64 0) := (cell_of_row _ _ _ _ _ _ HC6.out).trans rfl
  have d1_6 : w6.cell? ⟨w2.heap.size, 1, none⟩ = some (.int .i64 0) := (cell_of_row _ _ _ _ _ _ HC6.out).trans rfl
  have d2_6 : w6.cell? ⟨w2.heap.size, 2, none⟩ = some (.int .i64 0) := (cell_of_row _ _ _ _ _ _ HC6.out).trans rfl
  have d3_6 : w6.cell? ⟨w2.heap.size, 3, none⟩ = some (.bool false) := (cell_of_row _ _ _ _ _ _ HC6.out).trans rfl
  go_wp2_with fail
  refine (free_nil _).mono ?_
  rintro e w7 ⟨rfl, hb7⟩
  have HB7 := Lib.hid (bnext HB6.out hb7)
  have HA7 := Lib.hid ((hb7.block _ (lt_of_block HA6.out)).trans HA6.out)
  have HC7 := Lib.hid ((hb7.block _ (lt_of_block HC6.out)).trans HC6.out)
  clear hb7 c0_6 c1_6 c2_6 d0_6 d1_6 d2_6 d3_6
  have l_7 : w.heap.size < w7.heap.size := lt_of_block HA7.out
  have c0_7 : w7.cell? ⟨w.heap.size, 0, none⟩ = some (.int .i64 kind) := (cell_of_row _ _ _ _ _ _ HA7.out).trans rfl
  have c1_7 : w7.cell? ⟨w.heap.size, 1, none⟩ = some (.int .i64 s) := (cell_of_row _ _ _ _ _ _ HA7.out).trans rfl
  have c2_7 : w7.cell? ⟨w.heap.size, 2, none⟩ = some (.int .i64 n) := (cell_of_row _ _ _ _ _ _ HA7.out).trans rfl
  have d0_7 : w7.cell? ⟨w2.heap.size, 0, none⟩ = some (.int .i64 0) := (cell_of_row _ _ _ _ _ _ HC7.out).trans rfl
  have d1_7 : w7.cell? ⟨w2.heap.size, 1, none⟩ = some (.int .i64 0) := (cell_of_row _ _ _ _ _ _ HC7.out).trans rfl
  have d2_7 : w7.cell? ⟨w2.heap.size, 2, none⟩ = some (.int .i64 0) := (cell_of_row _ _ _ _ _ _ HC7.out).trans rfl
  have d3_7 : w7.cell? ⟨w2.heap.size, 3, none⟩ = some (.bool false) := (cell_of_row _ _ _ _ _ _ HC7.out).trans rfl
  go_wp2_with fail
  refine (room_nil _ _).mono ?_
  rintro e w8 ⟨rfl, hb8⟩
  have HB8 := Lib.hid (bnext HB7.out hb8)
  have HA8 := Lib.hid ((hb8.block _ (lt_of_block HA7.out)).trans HA7.out)
  have HC8 := Lib.hid ((hb8.block _ (lt_of_block HC7.out)).trans HC7.out)
  clear hb8 c0_7 c1_7 c2_7 d0_7 d1_7 d2_7 d3_7
  have l_8 : w.heap.size < w8.heap.size := lt_of_block HA8.out
  have c0_8 : w8.cell? ⟨w.heap.size, 0, none⟩ = some (.int .i64 kind) := (cell_of_row _ _ _ _ _ _ HA8.out).trans rfl
  have c1_8 : w8.cell? ⟨w.heap.size, 1, none⟩ = some (.int .i64 s) := (cell_of_row _ _ _ _ _ _ HA8.out).trans rfl
  have c2_8 : w8.cell? ⟨w.heap.size, 2, none⟩ = some (.int .i64 n) := (cell_of_row _ _ _ _ _ _ HA8.out).trans rfl
  have d0_8 : w8.cell? ⟨w2.heap.size, 0, none⟩ = some (.int .i64 0) := (cell_of_row _ _ _ _ _ _ HC8.out).trans rfl
  have d1_8 : w8.cell? ⟨w2.heap.size, 1, none⟩ = some (.int .i64 0) := (cell_of_row _ _ _ _ _ _ HC8.out).trans rfl
  have d2_8 : w8.cell? ⟨w2.heap.size, 2, none⟩ = some (.int .i64 0) := (cell_of_row _ _ _ _ _ _ HC8.out).trans rfl
  have d3_8 : w8.cell? ⟨w2.heap.size, 3, none⟩ = some (.bool false) := (cell_of_row _ _ _ _ _ _ HC8.out).trans rfl
  go_wp2_with fail
  refine (list_nil _).mono ?_
  rintro e w9 ⟨rfl, hb9⟩
  have HB9 := Lib.hid (bnext HB8.out hb9)
  have HA9 := Lib.hid ((hb9.block _ (lt_of_block HA8.out)).trans HA8.out)
  have HC9 := Lib.hid ((hb9.block _ (lt_of_block HC8.out)).trans HC8.out)
  clear hb9 c0_8 c1_8 c2_8 d0_8 d1_8 d2_8 d3_8
  have l_9 : w.heap.size < w9.heap.size := lt_of_block HA9.out
  have c0_9 : w9.cell? ⟨w.heap.size, 0, none⟩ = some (.int .i64 kind) := (cell_of_row _ _ _ _ _ _ HA9.out).trans rfl
  have c1_9 : w9.cell? ⟨w.heap.size, 1, none⟩ = some (.int .i64 s) := (cell_of_row _ _ _ _ _ _ HA9.out).trans rfl
  have c2_9 : w9.cell? ⟨w.heap.size, 2, none⟩ = some (.int .i64 n) := (cell_of_row _ _ _ _ _ _ HA9.out).trans rfl
  have d0_9 : w9.cell? ⟨w2.heap.size, 0, none⟩ = some (.int .i64 0) := (cell_of_row _ _ _ _ _ _ HC9.out).trans rfl
  have d1_9 : w9.cell? ⟨w2.heap.size, 1, none⟩ = some (.int .i64 0) := (cell_of_row _ _ _ _ _ _ HC9.out).trans rfl
  have d2_9 : w9.cell? ⟨w2.heap.size, 2, none⟩ = some (.int .i64 0) := (cell_of_row _ _ _ _ _ _ HC9.out).trans rfl
  have d3_9 : w9.cell? ⟨w2.heap.size, 3, none⟩ = some (.bool false) := (cell_of_row _ _ _ _ _ _ HC9.out).trans rfl
  go_wp2_with fail
  refine (twin_nil _).mono ?_
  rintro e w10 ⟨rfl, hb10⟩
  have HB10 := Lib.hid (bnext HB9.out hb10)
  have HA10 := Lib.hid ((hb10.block _ (lt_of_block HA9.out)).trans HA9.out)
  have HC10 := Lib.hid ((hb10.block _ (lt_of_block HC9.out)).trans HC9.out)
  clear hb10 c0_9 c1_9 c2_9 d0_9 d1_9 d2_9 d3_9
  have l_10 : w.heap.size < w10.heap.size := lt_of_block HA10.out
  have c0_10 : w10.cell? ⟨w.heap.size, 0, none⟩ = some (.int .i64 kind) := (cell_of_row _ _ _ _ _ _ HA10.out).trans rfl
  have c1_10 : w10.cell? ⟨w.heap.size, 1, none⟩ = some (.int .i64 s) := (cell_of_row _ _ _ _ _ _ HA10.out).trans rfl
  have c2_10 : w10.cell? ⟨w.heap.size, 2, none⟩ = some (.int .i64 n) := (cell_of_row _ _ _ _ _ _ HA10.out).trans rfl
  have d0_10 : w10.cell? ⟨w2.heap.size, 0, none⟩ = some (.int .i64 0) := (cell_of_row _ _ _ _ _ _ HC10.out).trans rfl
  have d1_10 : w10.cell? ⟨w2.heap.size, 1, none⟩ = some (.int .i64 0) := (cell_of_row _ _ _ _ _ _ HC10.out).trans rfl
  have d2_10 : w10.cell? ⟨w2.heap.size, 2, none⟩ = some (.int .i64 0) := (cell_of_row _ _ _ _ _ _ HC10.out).trans rfl
  have d3_10 : w10.cell? ⟨w2.heap.size, 3, none⟩ = some (.bool false) := (cell_of_row _ _ _ _ _ _ HC10.out).trans rfl
  go_wp2_with fail
  refine (works_any _).mono ?_
  rintro e w11 ⟨rfl, hb11⟩
  have HB11 := Lib.hid (bnext HB10.out hb11)
  have HA11 := Lib.hid ((hb11.block _ (lt_of_block HA10.out)).trans HA10.out)
  have HC11 := Lib.hid ((hb11.block _ (lt_of_block HC10.out)).trans HC10.out)
  clear hb11 c0_10 c1_10 c2_10 d0_10 d1_10 d2_10 d3_10
  have l_11 : w.heap.size < w11.heap.size := lt_of_block HA11.out
  have c0_11 : w11.cell? ⟨w.heap.size, 0, none⟩ = some (.int .i64 kind) := (cell_of_row _ _ _ _ _ _ HA11.out).trans rfl
  have c1_11 : w11.cell? ⟨w.heap.size, 1, none⟩ = some (.int .i64 s) := (cell_of_row _ _ _ _ _ _ HA11.out).trans rfl
  have c2_11 : w11.cell? ⟨w.heap.size, 2, none⟩ = some (.int .i64 n) := (cell_of_row _ _ _ _ _ _ HA11.out).trans rfl
  have d0_11 : w11.cell? ⟨w2.heap.size, 0, none⟩ = some (.int .i64 0) := (cell_of_row _ _ _ _ _ _ HC11.out).trans rfl
  have d1_11 : w11.cell? ⟨w2.heap.size, 1, none⟩ = some (.int .i64 0) := (cell_of_row _ _ _ _ _ _ HC11.out).trans rfl
  have d2_11 : w11.cell? ⟨w2.heap.size, 2, none⟩ = some (.int .i64 0) := (cell_of_row _ _ _ _ _ _ HC11.out).trans rfl
  have d3_11 : w11.cell? ⟨w2.heap.size, 3, none⟩ = some (.bool false) := (cell_of_row _ _ _ _ _ _ HC11.out).trans rfl
  go_wp2_with fail
  go_ret
  exact ⟨rfl, HB11.out⟩
end Go.Proofs.Ytilbohjkkdkdiaa
