/- The walk of AdmitExact: whatever the row of acts, it answers true; no condition. -/
import Derived.Test.YtilbohjkkdkdiaaGLawA
import Derived.Deep.CutBlock
import Derived.Deep.CutRange
import Derived.Deep.DeepCutAuto
namespace Go.Proofs.Ytilbohjkkdkdiaa
open Go.RowKit
set_option maxHeartbeats 16000000 in
set_option maxRecDepth 100000 in
theorem exact_any (v : Value) (l : List (Int × Int × Int)) (w : World) (h : ActsAt w v l) : Calls Try.prog 6 #[v] w fun e w' => e = .returned (.bool true) ∧ Below w.heap.size w w' := by
  have HN := Lib.hid fun w => new_any w
  have HA := Lib.hid h
  have H1 := Lib.hid (show ExI w (w.alloc (.cells (arr (fun _ => zc)) BT)) (fun _ => zc) from ⟨BK.new BT w (fun _ => zc), good_none, (Below.refl w.heap.size w).alloc (Nat.le_refl _) (.cells (arr (fun _ => zc)) BT)⟩)
  obtain ⟨p, cap, rfl, hl, hc⟩ := h
  clear hc
  go_enter Try.func6, Try.ntmps6
  go_wp2_with fail
  refine (HN.out _).mono ?_
  rintro e w1 ⟨rfl, hw1⟩
  rw [← hw1] at H1
  clear hw1 HN
  go_wp2_with fail
  go_loopw [4] (fun i wr => ∃ (k : Nat) (f : Nat → Cl), k ≤ l.length ∧ i = .int .i64 k ∧ Hid (ExI w wr f)) (fun i _ => l.length - (intOf i).toNat)
  case atStart => exact ⟨0, _, by omega, rfl, H1⟩
  case round =>
    obtain ⟨k, f, hk, rfl, HE⟩ := hrel
    clear H1
    by_cases hlt : k < l.length
    · have hlt' : (k : Int) < (l.length : Int) := by omega
      have HK := Lib.hid (HA.out.below HE.out.2.2)
      have hget : l[k]? = some l[k] := List.getElem?_eq_getElem hlt
      rcases hx : l[k] with ⟨x0, x1, x2⟩
      rw [hx] at hget
      obtain ⟨p', cap', e, _, hc⟩ := HK.out
      cases e
      obtain ⟨b', off', rfl, q0, q1, q2⟩ := hc k x0 x1 x2 hget
      clear hc hget hx HK
      obtain ⟨a0, a1⟩ := tm_in x1 8 (by omega)
      obtain ⟨a2, a3⟩ := tm_in x2 1048576 (by omega)
      obtain ⟨a4, a5⟩ := tm_in x0 4 (by omega)
      obtain ⟨b0, b1⟩ := tm_nat x1 8 (by omega)
      obtain ⟨b2, b3⟩ := tm_nat x2 1048576 (by omega)
      obtain ⟨b4, b5⟩ := tm_nat x0 4 (by omega)
      have HE1 := Lib.hid (HE.out.1.alloc (.cells #[.int .i64 x0, .int .i64 x1, .int .i64 x2] 29))
      have HG := Lib.hid HE.out.2.1
      have HW1 := Lib.hid (HE.out.2.2.alloc HE.out.2.2.size (.cells #[.int .i64 x0, .int .i64 x1, .int .i64 x2] 29))
      have HA1 := Lib.hid (A3.new wr x0 x1 x2)
      have hzw := HE.out.1.lt
      clear HE
      obtain ⟨s, hs⟩ : ∃ s : Nat, (x1.tmod 8 + 8).tmod 8 = s := ⟨((x1.tmod 8 + 8).tmod 8).toNat, by omega⟩
      obtain ⟨m, hm⟩ : ∃ m : Int, (x2.tmod 1048576 + 1048576).tmod 1048576 = m := ⟨_, rfl⟩
      obtain ⟨kd, hkd⟩ : ∃ kd : Int, (x0.tmod 4 + 4).tmod 4 = kd := ⟨_, rfl⟩
      have hs1 : (x1.tmod 8 + 8) % 8 = s := (tm_mod x1 8 (by omega)).trans hs
      have hs2 : x1.tmod 8 % 8 = s := by omega
      have hm1 : (x2.tmod 1048576 + 1048576) % 1048576 = m := (tm_mod x2 1048576 (by omega)).trans hm
      have hm2 : x2.tmod 1048576 % 1048576 = m := by omega
      have hkd1 : (x0.tmod 4 + 4) % 4 = kd := (tm_mod x0 4 (by omega)).trans hkd
      have hkd2 : x0.tmod 4 % 4 = kd := by omega
      rw [hs] at b0 b1
      rw [hm] at b2 b3
      rw [hkd] at b4 b5
      have hs64 : s < 64 := by omega
      go_wp2_with fail
      obtain ⟨n, hn⟩ : ∃ n : Int, m + 1 = n := ⟨_, rfl⟩
      have hn1 : 1 ≤ n := by omega
      have hn2 : n ≤ 1048576 := by omega
      rw [hn]
      have HOF := Lib.hid fun W (hb : BK BT W w.heap.size f) => of_any w.heap.size f s W hs64 hb HG.out
      have HWAY0 := Lib.hid (addS HG.out hs64 n hn1 hn2)
      have HWAY1 := Lib.hid (resS HG.out hs64 n hn1 hn2)
      have HWAY2 := Lib.hid (dieS HG.out hs64)
      have HWAY3 := Lib.hid (croS HG.out hs64)
      obtain ⟨S, hS⟩ : ∃ S, sumTo f 64 = S := ⟨_, rfl⟩
      have HSU := Lib.hid fun W hb => sum_at w.heap.size f S hS HG.out W hb
      rw [hS] at HWAY0 HWAY1 HWAY2 HWAY3
      have hS0 : 0 ≤ S := by rw [← hS]; exact HG.out.pos
      have hS1 : S ≤ 1048576 := by rw [← hS]; exact HG.out.sum
      have HFK := Lib.hid (HG.out.small s hs64)
      cases hf : f s with
      | mk cs cn cx cd =>
      rw [hf] at HOF HWAY0 HWAY1 HWAY3 HFK
      simp only at HOF HWAY0 HWAY1 HWAY3
      have HM := Lib.hid (show 0 ≤ max cn cx ∧ max cn cx ≤ 1048576 from HFK.out)
      obtain ⟨is, his⟩ : ∃ is, decide (1 ≤ cn) = is := ⟨_, rfl⟩
      rw [his] at HOF
      have HIS := Lib.hid his
      clear hf hS his hs hs1 hs2 hm hm1 hm2 hn a0 a1 a2 a3 b0 b1 b2 b3 q0 q1 q2 HFK
      refine (HOF.out _ HE1.out).mono ?_
      rintro e w2 ⟨rfl, hb2⟩
      have HE2 := Lib.hid ((HE1.out.below hb2).alloc (.cells #[.int .i64 cs, .int .i64 cn, .int .i64 cx, .bool cd] 35))
      have hHW2 := bnext HW1.out hb2
      have HW2 := Lib.hid (hHW2.alloc hHW2.size (.cells #[.int .i64 cs, .int .i64 cn, .int .i64 cx, .bool cd] 35))
      have HA2 := Lib.hid ((HA1.out.below hb2).alloc (.cells #[.int .i64 cs, .int .i64 cn, .int .i64 cx, .bool cd] 35))
      have HC2 := Lib.hid (C4.new 35 w2 cs cn cx cd)
      clear hb2 HE1 HW1 HA1 HOF hHW2
      go_wp2_with fail
      refine (HSU.out _ HE2.out).mono ?_
      rintro e w3 ⟨rfl, hb3⟩
      have HE3 := Lib.hid (HE2.out.below hb3)
      have HW3 := Lib.hid (bnext HW2.out hb3)
      obtain ⟨r0, r1, r2⟩ := (HA2.out.below hb3).cells
      have HC3 := Lib.hid (HC2.out.below hb3)
      obtain ⟨d0, d1, d2, d3⟩ := HC3.out.cells
      have hz3 := HC3.out.lt
      clear hb3 HE2 HW2 HA2 HC2
      generalize w2.heap.size = qc at *
      go_upto_block 2 with fail
      clear hkd hkd1 hkd2 r0 r1 r2 a4 a5
      go_cut [] (fun wx => ∃ g, Hid (ExI w wx g))
      case first =>
        have hk4 : kd = 0 ∨ kd = 1 ∨ kd = 2 ∨ kd = 3 := by omega
        clear b4 b5
        rcases hk4 with rfl | rfl | rfl | rfl
        · clear HWAY1 HWAY2 HWAY3
          rcases HWAY0.out with ⟨hcn, he, hf2⟩ | ⟨hcn, he, hf2, ho⟩ | ⟨hcn, he, ho⟩
          · as_aux_lemma =>
              have hi : is = true := by rw [← HIS.out]; exact decide_eq_true hcn
              subst hi
              clear HIS HWAY0
              clear d0 d1 d2 d3
              have HC := Lib.hid fun W (hb : BK BT W w.heap.size f) => (by have := add_any w.heap.size f s n W hb HG.out; rw [he] at this; rw [hf2] at this; exact this : Calls Try.prog 20 #[.pointer (some ⟨w.heap.size, 0, none⟩), .int .i64 s, .int .i64 n] W (Turns w.heap.size f (errV 30) W))
              go_wp2_with fail
              refine (HC.out _ HE3.out).mono ?_
              rintro e w4 ⟨rfl, hb4, hk4⟩
              have HE4 := Lib.hid (show ExI w w4 f from ⟨hb4, HG.out, turn_below HW3.out (Nat.le_refl _) HW3.out.size hk4⟩)
              clear hb4 hk4
              go_wp2_with fail
              refine (num_any 30 _).mono ?_
              rintro e w5 ⟨rfl, rfl⟩
              go_wp2_with fail
              go_meet
              exact ⟨_, HE4⟩
          · as_aux_lemma =>
              have hi : is = false := by rw [← HIS.out]; exact decide_eq_false (by omega)
              subst hi
              clear HIS HWAY0
              clear d0 d1 d2 d3
              have HC := Lib.hid fun W (hb : BK BT W w.heap.size f) => (by have := add_any w.heap.size f s n W hb HG.out; rw [he] at this; rw [hf2] at this; exact this : Calls Try.prog 20 #[.pointer (some ⟨w.heap.size, 0, none⟩), .int .i64 s, .int .i64 n] W (Turns w.heap.size f (errV 80) W))
              go_wp2_with fail
              refine (HC.out _ HE3.out).mono ?_
              rintro e w4 ⟨rfl, hb4, hk4⟩
              have HE4 := Lib.hid (show ExI w w4 f from ⟨hb4, HG.out, turn_below HW3.out (Nat.le_refl _) HW3.out.size hk4⟩)
              clear hb4 hk4
              go_wp2_with fail
              refine (num_any 80 _).mono ?_
              rintro e w5 ⟨rfl, rfl⟩
              have y1 : decide (1048576 < S + n) = true := decide_eq_true ho
              go_wp2_with fail
              go_meet
              exact ⟨_, HE4⟩
          · as_aux_lemma =>
              have hi : is = false := by rw [← HIS.out]; exact decide_eq_false (by omega)
              subst hi
              clear HIS HWAY0
              clear d0 d1 d2 d3
              have HC := Lib.hid fun W (hb : BK BT W w.heap.size f) => (by have := add_any w.heap.size f s n W hb HG.out; rw [he] at this; exact this : Calls Try.prog 20 #[.pointer (some ⟨w.heap.size, 0, none⟩), .int .i64 s, .int .i64 n] W (Turns w.heap.size (addF f s n) (errV 0) W))
              go_wp2_with fail
              refine (HC.out _ HE3.out).mono ?_
              rintro e w4 ⟨rfl, hb4, hk4⟩
              have HE4 := Lib.hid (show ExI w w4 (addF f s n) from ⟨hb4, add_good HG.out _ _, turn_below HW3.out (Nat.le_refl _) HW3.out.size hk4⟩)
              clear hb4 hk4
              go_wp2_with fail
              refine (num_any 0 _).mono ?_
              rintro e w5 ⟨rfl, rfl⟩
              have y1 : decide (1048576 < S + n) = false := decide_eq_false (by omega)
              go_wp2_with fail
              go_meet
              exact ⟨_, HE4⟩
        · clear HWAY0 HWAY2 HWAY3
          rcases HWAY1.out with ⟨hcn, he⟩ | ⟨hcn, hcd, he⟩ | ⟨hcn, hcd, he, ho⟩ | ⟨hcn, hcd, he, ho⟩
          · as_aux_lemma =>
              have hi : is = false := by rw [← HIS.out]; exact decide_eq_false (by omega)
              subst hi
              clear HIS HWAY1
              clear d0 d1 d2 d3
              have HC := Lib.hid fun W (hb : BK BT W w.heap.size f) => (by have := resize_any w.heap.size f s n W hb HG.out; rw [he] at this; exact this : Calls Try.prog 21 #[.pointer (some ⟨w.heap.size, 0, none⟩), .int .i64 s, .int .i64 n] W (Turns w.heap.size (resF f s n) (errV 20) W))
              go_wp2_with fail
              refine (HC.out _ HE3.out).mono ?_
              rintro e w4 ⟨rfl, hb4, hk4⟩
              have HE4 := Lib.hid (show ExI w w4 (resF f s n) from ⟨hb4, res_good HG.out _ _, turn_below HW3.out (Nat.le_refl _) HW3.out.size hk4⟩)
              obtain ⟨g0, g1, g2, g3⟩ := (HC3.out.keeps hk4 (HE3.out.ne4 HC3.out)).cells
              clear hb4 hk4
              go_wp2_with fail
              refine (num_any 20 _).mono ?_
              rintro e w5 ⟨rfl, rfl⟩
              obtain ⟨M, hM⟩ : ∃ M, max cn cx = M := ⟨_, rfl⟩
              obtain ⟨M2, hM2⟩ : ∃ M, max cn n = M := ⟨_, rfl⟩
              have m0 : 0 ≤ M := by rw [← hM]; exact HM.out.1
              have m1 : M ≤ 1048576 := by rw [← hM]; exact HM.out.2
              have m2 : 1 ≤ M2 := by omega
              have m3 : M2 ≤ 1048576 := by omega
              go_wp2_with fail
              go_meet
              exact ⟨_, HE4⟩
          · as_aux_lemma =>
              have hi : is = true := by rw [← HIS.out]; exact decide_eq_true hcn
              subst hi
              clear HIS HWAY1
              subst hcd
              clear d0 d1 d2 d3
              have HC := Lib.hid fun W (hb : BK BT W w.heap.size f) => (by have := resize_any w.heap.size f s n W hb HG.out; rw [he] at this; exact this : Calls Try.prog 21 #[.pointer (some ⟨w.heap.size, 0, none⟩), .int .i64 s, .int .i64 n] W (Turns w.heap.size (resF f s n) (errV 92) W))
              go_wp2_with fail
              refine (HC.out _ HE3.out).mono ?_
              rintro e w4 ⟨rfl, hb4, hk4⟩
              have HE4 := Lib.hid (show ExI w w4 (resF f s n) from ⟨hb4, res_good HG.out _ _, turn_below HW3.out (Nat.le_refl _) HW3.out.size hk4⟩)
              obtain ⟨g0, g1, g2, g3⟩ := (HC3.out.keeps hk4 (HE3.out.ne4 HC3.out)).cells
              clear hb4 hk4
              go_wp2_with fail
              refine (num_any 92 _).mono ?_
              rintro e w5 ⟨rfl, rfl⟩
              obtain ⟨M, hM⟩ : ∃ M, max cn cx = M := ⟨_, rfl⟩
              obtain ⟨M2, hM2⟩ : ∃ M, max cn n = M := ⟨_, rfl⟩
              have m0 : 0 ≤ M := by rw [← hM]; exact HM.out.1
              have m1 : M ≤ 1048576 := by rw [← hM]; exact HM.out.2
              have m2 : 1 ≤ M2 := by omega
              have m3 : M2 ≤ 1048576 := by omega
              go_wp2_with fail
              go_meet
              exact ⟨_, HE4⟩
          · as_aux_lemma =>
              have hi : is = true := by rw [← HIS.out]; exact decide_eq_true hcn
              subst hi
              clear HIS HWAY1
              subst hcd
              clear d0 d1 d2 d3
              have HC := Lib.hid fun W (hb : BK BT W w.heap.size f) => (by have := resize_any w.heap.size f s n W hb HG.out; rw [he] at this; exact this : Calls Try.prog 21 #[.pointer (some ⟨w.heap.size, 0, none⟩), .int .i64 s, .int .i64 n] W (Turns w.heap.size (resF f s n) (errV 80) W))
              go_wp2_with fail
              refine (HC.out _ HE3.out).mono ?_
              rintro e w4 ⟨rfl, hb4, hk4⟩
              have HE4 := Lib.hid (show ExI w w4 (resF f s n) from ⟨hb4, res_good HG.out _ _, turn_below HW3.out (Nat.le_refl _) HW3.out.size hk4⟩)
              obtain ⟨g0, g1, g2, g3⟩ := (HC3.out.keeps hk4 (HE3.out.ne4 HC3.out)).cells
              clear hb4 hk4
              go_wp2_with fail
              refine (num_any 80 _).mono ?_
              rintro e w5 ⟨rfl, rfl⟩
              obtain ⟨M, hM⟩ : ∃ M, max cn cx = M := ⟨_, rfl⟩
              obtain ⟨M2, hM2⟩ : ∃ M, max cn n = M := ⟨_, rfl⟩
              have m0 : 0 ≤ M := by rw [← hM]; exact HM.out.1
              have m1 : M ≤ 1048576 := by rw [← hM]; exact HM.out.2
              have m2 : 1 ≤ M2 := by omega
              have m3 : M2 ≤ 1048576 := by omega
              rw [hM, hM2] at ho
              have y1 : decide (1048576 < S - M + M2) = true := decide_eq_true ho
              go_wp2_with fail
              go_meet
              exact ⟨_, HE4⟩
          · as_aux_lemma =>
              have hi : is = true := by rw [← HIS.out]; exact decide_eq_true hcn
              subst hi
              clear HIS HWAY1
              subst hcd
              clear d0 d1 d2 d3
              have HC := Lib.hid fun W (hb : BK BT W w.heap.size f) => (by have := resize_any w.heap.size f s n W hb HG.out; rw [he] at this; exact this : Calls Try.prog 21 #[.pointer (some ⟨w.heap.size, 0, none⟩), .int .i64 s, .int .i64 n] W (Turns w.heap.size (resF f s n) (errV 0) W))
              go_wp2_with fail
              refine (HC.out _ HE3.out).mono ?_
              rintro e w4 ⟨rfl, hb4, hk4⟩
              have HE4 := Lib.hid (show ExI w w4 (resF f s n) from ⟨hb4, res_good HG.out _ _, turn_below HW3.out (Nat.le_refl _) HW3.out.size hk4⟩)
              obtain ⟨g0, g1, g2, g3⟩ := (HC3.out.keeps hk4 (HE3.out.ne4 HC3.out)).cells
              clear hb4 hk4
              go_wp2_with fail
              refine (num_any 0 _).mono ?_
              rintro e w5 ⟨rfl, rfl⟩
              obtain ⟨M, hM⟩ : ∃ M, max cn cx = M := ⟨_, rfl⟩
              obtain ⟨M2, hM2⟩ : ∃ M, max cn n = M := ⟨_, rfl⟩
              have m0 : 0 ≤ M := by rw [← hM]; exact HM.out.1
              have m1 : M ≤ 1048576 := by rw [← hM]; exact HM.out.2
              have m2 : 1 ≤ M2 := by omega
              have m3 : M2 ≤ 1048576 := by omega
              rw [hM, hM2] at ho
              have y1 : decide (1048576 < S - M + M2) = false := decide_eq_false (by omega)
              go_wp2_with fail
              go_meet
              exact ⟨_, HE4⟩
        · clear HWAY0 HWAY1 HWAY3
          rcases HWAY2.out with he | he | ⟨he, hsum⟩
          · as_aux_lemma =>
              clear d0 d1 d2 d3
              have HC := Lib.hid fun W (hb : BK BT W w.heap.size f) => (by have := die_any w.heap.size f s W hb HG.out; rw [he] at this; exact this : Calls Try.prog 22 #[.pointer (some ⟨w.heap.size, 0, none⟩), .int .i64 s] W (Turns w.heap.size (dieF f s) (errV 20) W))
              go_wp2_with fail
              refine (HC.out _ HE3.out).mono ?_
              rintro e w4 ⟨rfl, hb4, hk4⟩
              have HE4 := Lib.hid (show ExI w w4 (dieF f s) from ⟨hb4, die_good HG.out _, turn_below HW3.out (Nat.le_refl _) HW3.out.size hk4⟩)
              clear hb4 hk4
              go_wp2_with fail
              refine (num_any 20 _).mono ?_
              rintro e w5 ⟨rfl, rfl⟩
              go_wp2_with fail
              go_meet
              exact ⟨_, HE4⟩
          · as_aux_lemma =>
              clear d0 d1 d2 d3
              have HC := Lib.hid fun W (hb : BK BT W w.heap.size f) => (by have := die_any w.heap.size f s W hb HG.out; rw [he] at this; exact this : Calls Try.prog 22 #[.pointer (some ⟨w.heap.size, 0, none⟩), .int .i64 s] W (Turns w.heap.size (dieF f s) (errV 92) W))
              go_wp2_with fail
              refine (HC.out _ HE3.out).mono ?_
              rintro e w4 ⟨rfl, hb4, hk4⟩
              have HE4 := Lib.hid (show ExI w w4 (dieF f s) from ⟨hb4, die_good HG.out _, turn_below HW3.out (Nat.le_refl _) HW3.out.size hk4⟩)
              clear hb4 hk4
              go_wp2_with fail
              refine (num_any 92 _).mono ?_
              rintro e w5 ⟨rfl, rfl⟩
              go_wp2_with fail
              go_meet
              exact ⟨_, HE4⟩
          · as_aux_lemma =>
              clear d0 d1 d2 d3
              have HC := Lib.hid fun W (hb : BK BT W w.heap.size f) => (by have := die_any w.heap.size f s W hb HG.out; rw [he] at this; exact this : Calls Try.prog 22 #[.pointer (some ⟨w.heap.size, 0, none⟩), .int .i64 s] W (Turns w.heap.size (dieF f s) (errV 0) W))
              go_wp2_with fail
              refine (HC.out _ HE3.out).mono ?_
              rintro e w4 ⟨rfl, hb4, hk4⟩
              have HB4 := Lib.hid hb4
              have HW4 := Lib.hid (turn_below HW3.out (Nat.le_refl _) HW3.out.size hk4)
              clear hb4 hk4
              go_wp2_with fail
              refine (num_any 0 _).mono ?_
              rintro e w5 ⟨rfl, rfl⟩
              go_wp2_with fail
              refine (sum_at w.heap.size (dieF f s) S hsum (die_good HG.out _) _ HB4.out).mono ?_
              rintro e w6 ⟨rfl, hb6⟩
              have HE4 := Lib.hid (show ExI w w6 (dieF f s) from ⟨HB4.out.below hb6, die_good HG.out _, bnext HW4.out hb6⟩)
              clear hb6
              go_wp2_with fail
              go_meet
              exact ⟨_, HE4⟩
        · clear HWAY0 HWAY1 HWAY2
          rcases HWAY3.out with ⟨hcn, he, hwh, hfs⟩ | ⟨hcn, hcd, he, hwh, hfs, hsum⟩ | ⟨hcn, hcd, he, hwh, hfs, hsum⟩ | ⟨hcn, hcd, he, hwh, hcx, hfs, hsum⟩
          · as_aux_lemma =>
              have hi : is = false := by rw [← HIS.out]; exact decide_eq_false (by omega)
              subst hi
              clear HIS HWAY3
              clear d0 d1 d2 d3
              have HC := Lib.hid fun W (hb : BK BT W w.heap.size f) => (by have := cross_any w.heap.size f s W hb HG.out; unfold Crossed at this; rw [he, hwh] at this; rw [errV_ne (by decide)] at this; exact this : Calls Try.prog 18 #[.pointer (some ⟨w.heap.size, 0, none⟩), .int .i64 s] W (Turns w.heap.size (croF f s) (.tuple #[.int .i64 0, .iface 69 (.int .i64 20)]) W))
              have HGF := Lib.hid (cro_good HG.out (s : Int))
              generalize croF f s = f2 at HC HGF hfs
              have HO2 := Lib.hid fun W (hb : BK BT W w.heap.size f2) => of_gone w.heap.size f2 s W hs64 hb hfs
              go_wp2_with fail
              refine (HC.out _ HE3.out).mono ?_
              rintro e w4 ⟨rfl, hb4, hk4⟩
              have HB4 := Lib.hid hb4
              have HW4 := Lib.hid (turn_below HW3.out (Nat.le_refl _) HW3.out.size hk4)
              have HC4 := Lib.hid (HC3.out.keeps hk4 (HE3.out.ne4 HC3.out))
              clear hb4 hk4
              go_wp2_with fail
              refine (HO2.out _ HB4.out).mono ?_
              rintro e w5 ⟨rfl, hb5⟩
              have HB5 := Lib.hid ((HB4.out.below hb5).alloc (.cells #[.int .i64 0, .int .i64 0, .int .i64 0, .bool false] 35))
              have hHW5 := bnext HW4.out hb5
              have HW5 := Lib.hid (hHW5.alloc hHW5.size (.cells #[.int .i64 0, .int .i64 0, .int .i64 0, .bool false] 35))
              have HD5 := Lib.hid (C4.new 35 w5 0 0 0 false)
              have HC5 := Lib.hid ((HC4.out.below hb5).alloc (.cells #[.int .i64 0, .int .i64 0, .int .i64 0, .bool false] 35))
              obtain ⟨g0, g1, g2, g3⟩ := (HC4.out.below hb5).cells
              have hq5 := (HC4.out.below hb5).lt
              clear hb5 hHW5
              go_upto_region 17 with fail
              have HE4 := Lib.hid (fun n => (show ExI w (World.drewN (w5.alloc (.cells #[.int .i64 0, .int .i64 0, .int .i64 0, .bool false] 35)) n) f2 from ⟨HB5.out, HGF.out, below_drewN HW5.out n⟩))
              go_quiet (fail)
              go_wp2_with fail
              go_meet
              exact ⟨_, Lib.hid (HE4.out _)⟩
          · as_aux_lemma =>
              have hi : is = true := by rw [← HIS.out]; exact decide_eq_true hcn
              subst hi
              clear HIS HWAY3
              subst hcd
              clear d0 d1 d2 d3
              have HC := Lib.hid fun W (hb : BK BT W w.heap.size f) => (by have := cross_any w.heap.size f s W hb HG.out; unfold Crossed at this; rw [he, hwh] at this; rw [errV_0] at this; exact this : Calls Try.prog 18 #[.pointer (some ⟨w.heap.size, 0, none⟩), .int .i64 s] W (Turns w.heap.size (croF f s) (.tuple #[.int .i64 2, .nilIface]) W))
              have HGF := Lib.hid (cro_good HG.out (s : Int))
              generalize croF f s = f2 at HC HGF hfs hsum
              have HO2 := Lib.hid fun W (hb : BK BT W w.heap.size f2) => of_gone w.heap.size f2 s W hs64 hb hfs
              go_wp2_with fail
              refine (HC.out _ HE3.out).mono ?_
              rintro e w4 ⟨rfl, hb4, hk4⟩
              have HB4 := Lib.hid hb4
              have HW4 := Lib.hid (turn_below HW3.out (Nat.le_refl _) HW3.out.size hk4)
              have HC4 := Lib.hid (HC3.out.keeps hk4 (HE3.out.ne4 HC3.out))
              clear hb4 hk4
              go_wp2_with fail
              refine (HO2.out _ HB4.out).mono ?_
              rintro e w5 ⟨rfl, hb5⟩
              have HB5 := Lib.hid ((HB4.out.below hb5).alloc (.cells #[.int .i64 0, .int .i64 0, .int .i64 0, .bool false] 35))
              have hHW5 := bnext HW4.out hb5
              have HW5 := Lib.hid (hHW5.alloc hHW5.size (.cells #[.int .i64 0, .int .i64 0, .int .i64 0, .bool false] 35))
              have HD5 := Lib.hid (C4.new 35 w5 0 0 0 false)
              have HC5 := Lib.hid ((HC4.out.below hb5).alloc (.cells #[.int .i64 0, .int .i64 0, .int .i64 0, .bool false] 35))
              obtain ⟨g0, g1, g2, g3⟩ := (HC4.out.below hb5).cells
              have hq5 := (HC4.out.below hb5).lt
              clear hb5 hHW5
              go_upto_region 17 with fail
              clear g0 g1 g2 g3 hq5
              generalize w5.alloc (.cells #[.int .i64 0, .int .i64 0, .int .i64 0, .bool false] 35) = W6 at *
              obtain ⟨g0, g1, g2, g3⟩ := HC5.out.cells
              obtain ⟨j0, j1, j2, j3⟩ := HD5.out.cells
              have hq6 := HC5.out.lt
              have hq7 := HD5.out.lt
              obtain ⟨M, hM⟩ : ∃ M, max cn cx = M := ⟨_, rfl⟩
              have m0 : 0 ≤ M := by rw [← hM]; exact HM.out.1
              have m1 : M ≤ 1048576 := by rw [← hM]; exact HM.out.2
              rw [hM] at hsum
              have HSU2 := Lib.hid fun W hb => sum_at w.heap.size f2 (S - M) hsum HGF.out W hb
              have wr1 : IntKind.i64.wrap (S - M) = S - M := IntWalk.i64_in _ (by omega)
              clear hsum
              go_region_held3 (fun w' => (∀ b o, b < W6.heap.size → w'.cell? ⟨b, o, none⟩ = W6.cell? ⟨b, o, none⟩) ∧ BK BT w' w.heap.size f2 ∧ Below w.heap.size w w' ∧ W6.heap.size ≤ w'.heap.size)
                (first
                  | assumption
                  | (go_split_ands; exact keepE (by assumption) (by assumption) (by assumption) (by assumption) hb)
                  | exact keepE (fun _ _ _ => rfl) HB5.out (Below.drew HW5.out) (Nat.le_refl _) hb
                  | exact ⟨fun b o _ => rfl, HB5.out, Below.drew HW5.out, Nat.le_refl _⟩
                  | go_keep)
                ((go_at_call 23; refine (HSU2.out _ (by first | assumption | (go_split_ands; assumption))).mono ?_; rintro e w' ⟨rfl, hb⟩))
              all_goals
                go_wp2_with fail
                go_meet
                go_split_ands
                exact ⟨f2, Lib.hid ⟨by assumption, HGF.out, by assumption⟩⟩
          · as_aux_lemma =>
              have hi : is = true := by rw [← HIS.out]; exact decide_eq_true hcn
              subst hi
              clear HIS HWAY3
              subst hcd
              clear d0 d1 d2 d3
              have HC := Lib.hid fun W (hb : BK BT W w.heap.size f) => (by have := cross_any w.heap.size f s W hb HG.out; unfold Crossed at this; rw [he, hwh] at this; rw [errV_0] at this; exact this : Calls Try.prog 18 #[.pointer (some ⟨w.heap.size, 0, none⟩), .int .i64 s] W (Turns w.heap.size (croF f s) (.tuple #[.int .i64 0, .nilIface]) W))
              have HGF := Lib.hid (cro_good HG.out (s : Int))
              generalize croF f s = f2 at HC HGF hfs hsum
              have HO2 := Lib.hid fun W (hb : BK BT W w.heap.size f2) => (by have := of_there w.heap.size f2 s W hs64 hb (by rw [hfs]; simp only; omega); rw [hfs] at this; exact this : Calls Try.prog 19 #[.pointer (some ⟨w.heap.size, 0, none⟩), .int .i64 s] W fun e w' => e = .returned (.tuple #[.agg #[.int .i64 s, .int .i64 cn, .int .i64 0, .bool false], .bool true]) ∧ Below W.heap.size W w')
              go_wp2_with fail
              refine (HC.out _ HE3.out).mono ?_
              rintro e w4 ⟨rfl, hb4, hk4⟩
              have HB4 := Lib.hid hb4
              have HW4 := Lib.hid (turn_below HW3.out (Nat.le_refl _) HW3.out.size hk4)
              have HC4 := Lib.hid (HC3.out.keeps hk4 (HE3.out.ne4 HC3.out))
              clear hb4 hk4
              go_wp2_with fail
              refine (HO2.out _ HB4.out).mono ?_
              rintro e w5 ⟨rfl, hb5⟩
              have HB5 := Lib.hid ((HB4.out.below hb5).alloc (.cells #[.int .i64 s, .int .i64 cn, .int .i64 0, .bool false] 35))
              have hHW5 := bnext HW4.out hb5
              have HW5 := Lib.hid (hHW5.alloc hHW5.size (.cells #[.int .i64 s, .int .i64 cn, .int .i64 0, .bool false] 35))
              have HD5 := Lib.hid (C4.new 35 w5 s cn 0 false)
              have HC5 := Lib.hid ((HC4.out.below hb5).alloc (.cells #[.int .i64 s, .int .i64 cn, .int .i64 0, .bool false] 35))
              obtain ⟨g0, g1, g2, g3⟩ := (HC4.out.below hb5).cells
              have hq5 := (HC4.out.below hb5).lt
              clear hb5 hHW5
              go_upto_region 17 with fail
              clear g0 g1 g2 g3 hq5
              generalize w5.alloc (.cells #[.int .i64 s, .int .i64 cn, .int .i64 0, .bool false] 35) = W6 at *
              obtain ⟨g0, g1, g2, g3⟩ := HC5.out.cells
              obtain ⟨j0, j1, j2, j3⟩ := HD5.out.cells
              have hq6 := HC5.out.lt
              have hq7 := HD5.out.lt
              obtain ⟨M, hM⟩ : ∃ M, max cn cx = M := ⟨_, rfl⟩
              have m0 : 0 ≤ M := by rw [← hM]; exact HM.out.1
              have m1 : M ≤ 1048576 := by rw [← hM]; exact HM.out.2
              have m2 : 0 ≤ cn := by omega
              have m3 : cn ≤ 1048576 := by omega
              rw [hM] at hsum
              have HSU2 := Lib.hid fun W hb => sum_at w.heap.size f2 (S - M + cn) hsum HGF.out W hb
              have wr1 : IntKind.i64.wrap (S - M) = S - M := IntWalk.i64_in _ (by omega)
              have wr2 : IntKind.i64.wrap (S - M + cn) = S - M + cn := IntWalk.i64_in _ (by omega)
              clear hsum
              go_region_held3 (fun w' => (∀ b o, b < W6.heap.size → w'.cell? ⟨b, o, none⟩ = W6.cell? ⟨b, o, none⟩) ∧ BK BT w' w.heap.size f2 ∧ Below w.heap.size w w' ∧ W6.heap.size ≤ w'.heap.size)
                (first
                  | assumption
                  | (go_split_ands; exact keepE (by assumption) (by assumption) (by assumption) (by assumption) hb)
                  | exact keepE (fun _ _ _ => rfl) HB5.out (Below.drew HW5.out) (Nat.le_refl _) hb
                  | exact ⟨fun b o _ => rfl, HB5.out, Below.drew HW5.out, Nat.le_refl _⟩
                  | go_keep)
                ((go_at_call 23; refine (HSU2.out _ (by first | assumption | (go_split_ands; assumption))).mono ?_; rintro e w' ⟨rfl, hb⟩))
              all_goals
                go_wp2_with fail
                go_meet
                go_split_ands
                exact ⟨f2, Lib.hid ⟨by assumption, HGF.out, by assumption⟩⟩
          · as_aux_lemma =>
              have hi : is = true := by rw [← HIS.out]; exact decide_eq_true hcn
              subst hi
              clear HIS HWAY3
              subst hcd
              clear d0 d1 d2 d3
              have HC := Lib.hid fun W (hb : BK BT W w.heap.size f) => (by have := cross_any w.heap.size f s W hb HG.out; unfold Crossed at this; rw [he, hwh] at this; rw [errV_0] at this; exact this : Calls Try.prog 18 #[.pointer (some ⟨w.heap.size, 0, none⟩), .int .i64 s] W (Turns w.heap.size (croF f s) (.tuple #[.int .i64 1, .nilIface]) W))
              have HGF := Lib.hid (cro_good HG.out (s : Int))
              generalize croF f s = f2 at HC HGF hfs hsum
              have HO2 := Lib.hid fun W (hb : BK BT W w.heap.size f2) => (by have := of_there w.heap.size f2 s W hs64 hb (by rw [hfs]; simp only; omega); rw [hfs] at this; exact this : Calls Try.prog 19 #[.pointer (some ⟨w.heap.size, 0, none⟩), .int .i64 s] W fun e w' => e = .returned (.tuple #[.agg #[.int .i64 s, .int .i64 cx, .int .i64 0, .bool false], .bool true]) ∧ Below W.heap.size W w')
              go_wp2_with fail
              refine (HC.out _ HE3.out).mono ?_
              rintro e w4 ⟨rfl, hb4, hk4⟩
              have HB4 := Lib.hid hb4
              have HW4 := Lib.hid (turn_below HW3.out (Nat.le_refl _) HW3.out.size hk4)
              have HC4 := Lib.hid (HC3.out.keeps hk4 (HE3.out.ne4 HC3.out))
              clear hb4 hk4
              go_wp2_with fail
              refine (HO2.out _ HB4.out).mono ?_
              rintro e w5 ⟨rfl, hb5⟩
              have HB5 := Lib.hid ((HB4.out.below hb5).alloc (.cells #[.int .i64 s, .int .i64 cx, .int .i64 0, .bool false] 35))
              have hHW5 := bnext HW4.out hb5
              have HW5 := Lib.hid (hHW5.alloc hHW5.size (.cells #[.int .i64 s, .int .i64 cx, .int .i64 0, .bool false] 35))
              have HD5 := Lib.hid (C4.new 35 w5 s cx 0 false)
              have HC5 := Lib.hid ((HC4.out.below hb5).alloc (.cells #[.int .i64 s, .int .i64 cx, .int .i64 0, .bool false] 35))
              obtain ⟨g0, g1, g2, g3⟩ := (HC4.out.below hb5).cells
              have hq5 := (HC4.out.below hb5).lt
              clear hb5 hHW5
              by_cases hcc : cn = cx
              · subst hcc
                go_upto_region 17 with fail
                clear g0 g1 g2 g3 hq5
                generalize w5.alloc (.cells #[.int .i64 s, .int .i64 cn, .int .i64 0, .bool false] 35) = W6 at *
                obtain ⟨g0, g1, g2, g3⟩ := HC5.out.cells
                obtain ⟨j0, j1, j2, j3⟩ := HD5.out.cells
                have hq6 := HC5.out.lt
                have hq7 := HD5.out.lt
                have m0 : 0 ≤ cn := by omega
                have m1 : cn ≤ 1048576 := by have := HM.out.2; omega
                have hsum2 : sumTo f2 64 = S := by omega
                have HSU2 := Lib.hid fun W hb => sum_at w.heap.size f2 S hsum2 HGF.out W hb
                have wr1 : IntKind.i64.wrap (S - cn) = S - cn := IntWalk.i64_in _ (by omega)
                have wr2 : IntKind.i64.wrap S = S := IntWalk.i64_in _ (by omega)
                have wr3 : IntKind.i64.wrap (S - cn + cn) = S := IntWalk.i64_in (S - cn + cn) (by omega) |>.trans (by omega)
                clear hsum2 hsum
                go_region_held3 (fun w' => (∀ b o, b < W6.heap.size → w'.cell? ⟨b, o, none⟩ = W6.cell? ⟨b, o, none⟩) ∧ BK BT w' w.heap.size f2 ∧ Below w.heap.size w w' ∧ W6.heap.size ≤ w'.heap.size)
                  (first
                    | assumption
                    | (go_split_ands; exact keepE (by assumption) (by assumption) (by assumption) (by assumption) hb)
                    | exact keepE (fun _ _ _ => rfl) HB5.out (Below.drew HW5.out) (Nat.le_refl _) hb
                    | exact ⟨fun b o _ => rfl, HB5.out, Below.drew HW5.out, Nat.le_refl _⟩
                    | go_keep)
                  ((go_at_call 23; refine (HSU2.out _ (by first | assumption | (go_split_ands; assumption))).mono ?_; rintro e w' ⟨rfl, hb⟩))
                all_goals
                  go_wp2_with fail
                  go_meet
                  go_split_ands
                  exact ⟨f2, Lib.hid ⟨by assumption, HGF.out, by assumption⟩⟩
              · have y3 : (cx != cn) = true := by simpa using (fun e => hcc e.symm)
                go_upto_region 17 with fail
                clear g0 g1 g2 g3 hq5
                generalize w5.alloc (.cells #[.int .i64 s, .int .i64 cx, .int .i64 0, .bool false] 35) = W6 at *
                obtain ⟨g0, g1, g2, g3⟩ := HC5.out.cells
                obtain ⟨j0, j1, j2, j3⟩ := HD5.out.cells
                have hq6 := HC5.out.lt
                have hq7 := HD5.out.lt
                obtain ⟨M, hM⟩ : ∃ M, max cn cx = M := ⟨_, rfl⟩
                have m0 : 0 ≤ M := by rw [← hM]; exact HM.out.1
                have m1 : M ≤ 1048576 := by rw [← hM]; exact HM.out.2
                have m2 : 0 ≤ cx := by omega
                have m3 : cx ≤ 1048576 := by have := hM; omega
                rw [hM] at hsum
                have HSU2 := Lib.hid fun W hb => sum_at w.heap.size f2 (S - M + cx) hsum HGF.out W hb
                have wr1 : IntKind.i64.wrap (S - M) = S - M := IntWalk.i64_in _ (by omega)
                have wr2 : IntKind.i64.wrap (S - M + cx) = S - M + cx := IntWalk.i64_in _ (by omega)
                clear hsum
                go_region_held3 (fun w' => (∀ b o, b < W6.heap.size → w'.cell? ⟨b, o, none⟩ = W6.cell? ⟨b, o, none⟩) ∧ BK BT w' w.heap.size f2 ∧ Below w.heap.size w w' ∧ W6.heap.size ≤ w'.heap.size)
                  (first
                    | assumption
                    | (go_split_ands; exact keepE (by assumption) (by assumption) (by assumption) (by assumption) hb)
                    | exact keepE (fun _ _ _ => rfl) HB5.out (Below.drew HW5.out) (Nat.le_refl _) hb
                    | exact ⟨fun b o _ => rfl, HB5.out, Below.drew HW5.out, Nat.le_refl _⟩
                    | go_keep)
                  ((go_at_call 23; refine (HSU2.out _ (by first | assumption | (go_split_ands; assumption))).mono ?_; rintro e w' ⟨rfl, hb⟩))
                all_goals
                  go_wp2_with fail
                  go_meet
                  go_split_ands
                  exact ⟨f2, Lib.hid ⟨by assumption, HGF.out, by assumption⟩⟩
      case rest =>
        obtain ⟨g, HE4⟩ := hcut
        as_aux_lemma =>
          have HB4 := Lib.hid HE4.out.1
          have HG4 := Lib.hid HE4.out.2.1
          have HW4 := Lib.hid HE4.out.2.2
          obtain ⟨S4, hS4⟩ : ∃ S, sumTo g 64 = S := ⟨_, rfl⟩
          have s0 : 0 ≤ S4 := by rw [← hS4]; exact HG4.out.pos
          have s1 : S4 ≤ 1048576 := by rw [← hS4]; exact HG4.out.sum
          have HSU4 := Lib.hid fun W hb => sum_at w.heap.size g S4 hS4 HG4.out W hb
          have HFR4 := Lib.hid fun W hb => free_at w.heap.size g S4 hS4 HG4.out W hb
          clear HE4 hS4 HWAY0 HWAY1 HWAY2 HWAY3 HSU HIS HE3 HC3 d0 d1 d2 d3 HM b4 b5
          go_wp2_with fail
          refine (HSU4.out _ HB4.out).mono ?_
          rintro e v1 ⟨rfl, hb1⟩
          have HB5 := Lib.hid (HB4.out.below hb1)
          have HW5 := Lib.hid (bnext HW4.out hb1)
          clear hb1
          go_wp2_with fail
          refine (HSU4.out _ HB5.out).mono ?_
          rintro e v2 ⟨rfl, hb2⟩
          have HB6 := Lib.hid (HB5.out.below hb2)
          have HW6 := Lib.hid (bnext HW5.out hb2)
          clear hb2
          go_wp2_with fail
          refine (HFR4.out _ HB6.out).mono ?_
          rintro e v3 ⟨rfl, hb3⟩
          have HB7 := Lib.hid (HB6.out.below hb3)
          have HW7 := Lib.hid (bnext HW6.out hb3)
          clear hb3
          go_wp2_with fail
          refine (HSU4.out _ HB7.out).mono ?_
          rintro e v4 ⟨rfl, hb4⟩
          have HE8 := Lib.hid (show ExI w v4 g from ⟨HB7.out.below hb4, HG4.out, bnext HW7.out hb4⟩)
          clear hb4
          go_wp2_with fail
          go_roundw
          case rel => exact ⟨k + 1, g, by omega, by go_num, HE8⟩
          case measure => simp [intOf]; omega
          
    · have hg3 : decide (k < l.length) = false := decide_eq_false hlt
      have HWE := Lib.hid HE.out.2.2
      clear hlt HE
      go_wp2_with fail
      refine (works_any _).mono ?_
      rintro e w9 ⟨rfl, hb9⟩
      have HB9 := Lib.hid (bnext HWE.out hb9)
      clear hb9
      go_wp2_with fail
      go_ret
      exact ⟨rfl, HB9.out⟩
end Go.Proofs.Ytilbohjkkdkdiaa
