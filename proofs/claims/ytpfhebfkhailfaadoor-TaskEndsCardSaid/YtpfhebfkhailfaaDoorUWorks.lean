/- The law's own works; no condition but what the rows' listed variables hold. -/
import Derived.Test.YtpfhebfkhailfaaDoorUWorksA
namespace Go.Proofs.YtpfhebfkhailfaaDoor
open Go.RowKit Go.Shelf Tsk

set_option maxHeartbeats 4000000 in
set_option maxRecDepth 100000 in
theorem works_any (w : World) (hg : LaidAt w) : Calls Tryd.prog 21 #[] w fun e w' => e = .returned (.bool true) ∧ Below w.heap.size w w' := by
  have HG := Lib.hid hg
  clear hg
  go_enter Tryd.func21, Tryd.ntmps21
  go_wp2_with fail
  refine (pnew_ok 3 w (by omega)).mono ?_
  rintro e w1 ⟨rfl, hb1⟩
  obtain ⟨W1, hW1⟩ : ∃ W, W = w1.alloc (.cells #[.int .i64 3, .slice none 0 0, .int .i64 0, .int .i64 0, .int .i64 0, .int .i64 0, .int .i64 0, .int .i64 0] KT) := ⟨_, rfl⟩
  have HB1 := Lib.hid (show Below w.heap.size w W1 from by rw [hW1]; exact hb1.alloc (hb1.size) _)
  have HT1 := Lib.hid (show HasT W1 w1.heap.size 3 (.slice none 0 0) kZ from by rw [hW1]; exact has_new _ _ _ rfl)
  have HW1 := Lib.hid hW1
  have hs1 : w1.heap.size < W1.heap.size := by rw [hW1]; simp
  clear hW1 hb1
  go_wp2_with fail
  rw [← HW1.out]
  refine (works_push ⟨2, 0, 0, 5⟩ 10 W1 (by omega) (by decide)).mono ?_
  rintro e w2 ⟨sa, ca, rfl, hja, hb2⟩
  have hbb2 := bnext HB1.out hb2
  obtain ⟨W2, hW2⟩ : ∃ W, W = w2.alloc (.cells #[.int .i64 3, .slice sa 1 ca, .int .i64 0, .int .i64 0, .int .i64 0, .int .i64 0, .int .i64 0, .int .i64 0] KT) := ⟨_, rfl⟩
  have HB2 := Lib.hid (show Below w.heap.size w W2 from by rw [hW2]; exact hbb2.alloc (hbb2.size) _)
  have HT2 := Lib.hid (show HasT W2 w2.heap.size 3 (.slice sa 1 ca) kZ from by rw [hW2]; exact has_new _ _ _ rfl)
  have HW2 := Lib.hid hW2
  have HJ2 := Lib.hid (show Jobs W2 (.slice sa 1 ca) 1 (fun _ => jA) from by rw [hW2]; exact Jobs.below hja ((Below.refl _ _).alloc (Nat.le_refl _) _))
  have HTT2 := Lib.hid (show HasT W2 w1.heap.size 3 (.slice none 0 0) kZ from by rw [hW2]; exact has_old (HT1.out.below hb2) _)
  have hs2 : w2.heap.size < W2.heap.size := by rw [hW2]; simp
  clear hW2 hb2 hbb2 hja
  go_wp2_with fail
  rw [← HW2.out]
  refine (works_r1 sa ca W2 HJ2.out).mono ?_
  rintro e w3 ⟨sb, cb, rfl, hjb, hb3⟩
  have hbb3 := bnext HB2.out hb3
  obtain ⟨W3, hW3⟩ : ∃ W, W = w3.alloc (.cells #[.int .i64 3, .slice sb 1 cb, .int .i64 1, .int .i64 1, .int .i64 0, .int .i64 0, .int .i64 0, .int .i64 0] KT) := ⟨_, rfl⟩
  have HB3 := Lib.hid (show Below w.heap.size w W3 from by rw [hW3]; exact hbb3.alloc (hbb3.size) _)
  have HT3 := Lib.hid (show HasT W3 w3.heap.size 3 (.slice sb 1 cb) kB from by rw [hW3]; exact has_new _ _ _ rfl)
  have HW3 := Lib.hid hW3
  have HJ3 := Lib.hid (show Jobs W3 (.slice sb 1 cb) 1 (fun _ => jB) from by rw [hW3]; exact Jobs.below hjb ((Below.refl _ _).alloc (Nat.le_refl _) _))
  have HTT3 := Lib.hid (show HasT W3 w1.heap.size 3 (.slice none 0 0) kZ ∧ HasT W3 w2.heap.size 3 (.slice sa 1 ca) kZ from by rw [hW3]; exact ⟨has_old (HTT2.out.below hb3) _, has_old (HT2.out.below hb3) _⟩)
  have hs3 : w3.heap.size < W3.heap.size := by rw [hW3]; simp
  clear hW3 hb3 hbb3 hjb
  go_wp2_with fail
  rw [← HW3.out]
  refine (works_r2 sb cb W3 HJ3.out).mono ?_
  rintro e w4 ⟨sc, cc, rfl, hb4⟩
  have hbb4 := bnext HB3.out hb4
  obtain ⟨W4, hW4⟩ : ∃ W, W = w4.alloc (.cells #[.int .i64 3, .slice sc 0 cc, .int .i64 2, .int .i64 2, .int .i64 0, .int .i64 1, .int .i64 0, .int .i64 1] KT) := ⟨_, rfl⟩
  have HB4 := Lib.hid (show Below w.heap.size w W4 from by rw [hW4]; exact hbb4.alloc (hbb4.size) _)
  have HT4 := Lib.hid (show HasT W4 w4.heap.size 3 (.slice sc 0 cc) kC from by rw [hW4]; exact has_new _ _ _ rfl)
  have HW4 := Lib.hid hW4
  have HTT4 := Lib.hid (show HasT W4 w1.heap.size 3 (.slice none 0 0) kZ ∧ HasT W4 w2.heap.size 3 (.slice sa 1 ca) kZ from by rw [hW4]; exact ⟨has_old (HTT3.out.1.below hb4) _, has_old (HTT3.out.2.below hb4) _⟩)
  obtain ⟨t0, t1, t2, t3, t4, t5, t6, t7⟩ := (HTT3.out.1.below hb4).cells
  have hs4 : w4.heap.size < W4.heap.size := by rw [hW4]; simp
  have hl4 : w1.heap.size < w4.heap.size := has_lt (HTT3.out.1.below hb4)
  clear hW4 hb4 hbb4
  go_wp2_with fail
  rw [← HW4.out]
  refine (works_push ⟨3, 1, 0, 0⟩ 0 W4 (by omega) (by decide)).mono ?_
  rintro e w5 ⟨sd, cd, rfl, hjd, hb5⟩
  have hbb5 := bnext HB4.out hb5
  clear t0 t1 t2 t3 t4 t5 t6 t7
  obtain ⟨W5, hW5⟩ : ∃ W, W = w5.alloc (.cells #[.int .i64 3, .slice sd 1 cd, .int .i64 0, .int .i64 0, .int .i64 0, .int .i64 0, .int .i64 0, .int .i64 0] KT) := ⟨_, rfl⟩
  have HB5 := Lib.hid (show Below w.heap.size w W5 from by rw [hW5]; exact hbb5.alloc (hbb5.size) _)
  have HT5 := Lib.hid (show HasT W5 w5.heap.size 3 (.slice sd 1 cd) kZ from by rw [hW5]; exact has_new _ _ _ rfl)
  have HW5 := Lib.hid hW5
  have HJ5 := Lib.hid (show Jobs W5 (.slice sd 1 cd) 1 (fun _ => jD) from by rw [hW5]; exact Jobs.below hjd ((Below.refl _ _).alloc (Nat.le_refl _) _))
  have HTT5 := Lib.hid (show HasT W5 w1.heap.size 3 (.slice none 0 0) kZ ∧ HasT W5 w2.heap.size 3 (.slice sa 1 ca) kZ ∧ HasT W5 w4.heap.size 3 (.slice sc 0 cc) kC from by rw [hW5]; exact ⟨has_old (HTT4.out.1.below hb5) _, has_old (HTT4.out.2.below hb5) _, has_old (HT4.out.below hb5) _⟩)
  have hs5 : w5.heap.size < W5.heap.size := by rw [hW5]; simp
  clear hW5 hb5 hbb5 hjd
  go_wp2_with fail
  rw [← HW5.out]
  refine (works_r3 sd cd W5 HJ5.out).mono ?_
  rintro e w6 ⟨se, ce, rfl, hb6⟩
  have hbb6 := bnext HB5.out hb6
  obtain ⟨W6, hW6⟩ : ∃ W, W = w6.alloc (.cells #[.int .i64 3, .slice se 0 ce, .int .i64 1, .int .i64 1, .int .i64 0, .int .i64 0, .int .i64 1, .int .i64 0] KT) := ⟨_, rfl⟩
  have HB6 := Lib.hid (show Below w.heap.size w W6 from by rw [hW6]; exact hbb6.alloc (hbb6.size) _)
  have HT6 := Lib.hid (show HasT W6 w6.heap.size 3 (.slice se 0 ce) kD from by rw [hW6]; exact has_new _ _ _ rfl)
  have HW6 := Lib.hid hW6
  have HTT6 := Lib.hid (show HasT W6 w1.heap.size 3 (.slice none 0 0) kZ ∧ HasT W6 w2.heap.size 3 (.slice sa 1 ca) kZ ∧ HasT W6 w4.heap.size 3 (.slice sc 0 cc) kC from by rw [hW6]; exact ⟨has_old (HTT5.out.1.below hb6) _, has_old (HTT5.out.2.1.below hb6) _, has_old (HTT5.out.2.2.below hb6) _⟩)
  clear hW6 hb6 hbb6
  go_wp2_with fail
  rw [← HW6.out]
  refine (pnew_no 32 W6 (by omega)).mono ?_
  rintro e w7 ⟨rfl, hb7⟩
  rw [errV_ne (show (2 : Int) ≠ 0 by decide)]
  have hbb7 := bnext HB6.out hb7
  obtain ⟨W7, hW7⟩ : ∃ W, W = w7.alloc (.cells #[.int .i64 0, .slice none 0 0, .int .i64 0, .int .i64 0, .int .i64 0, .int .i64 0, .int .i64 0, .int .i64 0] KT) := ⟨_, rfl⟩
  have HB7 := Lib.hid (show Below w.heap.size w W7 from by rw [hW7]; exact hbb7.alloc hbb7.size _)
  have HTT7 := Lib.hid (show HasT W7 w1.heap.size 3 (.slice none 0 0) kZ ∧ HasT W7 w4.heap.size 3 (.slice sc 0 cc) kC from by rw [hW7]; exact ⟨has_old (HTT6.out.1.below hb7) _, has_old (HTT6.out.2.2.below hb7) _⟩)
  obtain ⟨a0, a1, a2, a3, a4, a5, a6, a7⟩ := (HTT6.out.2.1.below hb7).cells
  have hl7 : w2.heap.size < w7.heap.size := has_lt (HTT6.out.2.1.below hb7)
  have HW7 := Lib.hid hW7
  clear hW7 hb7 hbb7
  go_wp2_with fail
  rw [← HW7.out]
  refine (pready 3 sa 1 ca kZ W7).mono ?_
  rintro e w8 ⟨rfl, hb8⟩
  have HB8 := Lib.hid (bnext HB7.out hb8)
  have HTT8 := Lib.hid (HTT7.out.1.below hb8)
  obtain ⟨c0, c1, c2, c3, c4, c5, c6, c7⟩ := (HTT7.out.2.below hb8).cells
  obtain ⟨t0, t1, t2, t3, t4, t5, t6, t7⟩ := HTT8.out.cells
  clear hb8 a0 a1 a2 a3 a4 a5 a6 a7
  go_wp2_with (go_at_call 13; refine (num_errno 2 _).mono ?_; rintro e w9 ⟨rfl, rfl⟩)
  refine (works_show _ (HG.out.below HB8.out)).mono ?_
  rintro e w10 ⟨rfl, hb10⟩
  have HB10 := Lib.hid (bnext HB8.out hb10)
  clear hb10
  go_wp2_with fail
  go_ret
  exact ⟨rfl, HB10.out⟩
end Go.Proofs.YtpfhebfkhailfaaDoor
