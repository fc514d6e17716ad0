/- The walk of AdmitRoom: whatever the row of acts and the period, it answers true; no condition. -/
import Derived.Test.YtilbohjkkdkdiaaGRoomA
import Derived.StillTailTactics
import Derived.Deep.CutBlock
import Derived.Deep.CutRange
import Derived.Deep.DeepCutAuto
namespace Go.Proofs.Ytilbohjkkdkdiaa
open Go.RowKit
set_option maxHeartbeats 4000000 in
set_option maxRecDepth 100000 in
theorem room_law (v : Value) (l : List (Int × Int × Int)) (p0 : Int) (w : World) (h : ActsAt w v l) : Calls Try.prog 7 #[v, .int .i64 p0] w fun e w' => e = .returned (.bool true) ∧ Below w.heap.size w w' := by
  have HN := Lib.hid fun w => new_any w
  have HA := Lib.hid h
  have H1 := Lib.hid (show RoI w (w.alloc (.cells (arr (fun _ => zc)) BT)) (fun _ => zc) from ⟨BK.new BT w (fun _ => zc), good_none, (Below.refl w.heap.size w).alloc (Nat.le_refl _) (.cells (arr (fun _ => zc)) BT), rfl⟩)
  obtain ⟨p, cap, rfl, hl, hc⟩ := h
  clear hc
  go_enter Try.func7, Try.ntmps7
  go_wp2_with fail
  refine (HN.out _).mono ?_
  rintro e w1 ⟨rfl, hw1⟩
  rw [← hw1] at H1
  clear hw1 HN
  go_wp2_with fail
  go_loopw [6] (fun i wr => ∃ (k : Nat) (f : Nat → Cl), k ≤ l.length ∧ i = .int .i64 k ∧ Hid (RoI w wr f)) (fun i _ => l.length - (intOf i).toNat)
  case atStart => exact ⟨0, _, by omega, rfl, H1⟩
  case round =>
    obtain ⟨k, f, hk, rfl, HE⟩ := hrel
    clear H1
    have HG := Lib.hid HE.out.2.1
    by_cases hlt : k < l.length ∧ k < 50
    · have hlt' : (k : Int) < (l.length : Int) := by omega
      have hlt5 : (k : Int) < 50 := by omega
      have hltn := hlt.1
      have HK := Lib.hid (HA.out.below HE.out.2.2.1)
      have hget : l[k]? = some l[k] := List.getElem?_eq_getElem hltn
      rcases hx : l[k] with ⟨x0, x1, x2⟩
      rw [hx] at hget
      obtain ⟨p', cap', e, _, hc⟩ := HK.out
      cases e
      obtain ⟨b', off', rfl, q0, q1, q2⟩ := hc k x0 x1 x2 hget
      clear hc hget hx HK hlt
      obtain ⟨a0, a1⟩ := tm_in x1 60 (by omega)
      obtain ⟨a2, a3⟩ := tm_in x2 1048576 (by omega)
      obtain ⟨b0, b1⟩ := tm_nat x1 60 (by omega)
      obtain ⟨b2, b3⟩ := tm_nat x2 1048576 (by omega)
      obtain ⟨s, hs⟩ : ∃ s : Nat, (x1.tmod 60 + 60).tmod 60 = s := ⟨((x1.tmod 60 + 60).tmod 60).toNat, by omega⟩
      obtain ⟨m, hm⟩ : ∃ m : Int, (x2.tmod 1048576 + 1048576).tmod 1048576 = m := ⟨_, rfl⟩
      rw [hs] at b0 b1
      rw [hm] at b2 b3
      have hs60 : s < 60 := by omega
      have hs1 : (x1.tmod 60 + 60) % 60 = s := (tm_mod x1 60 (by omega)).trans hs
      have hm1 : (x2.tmod 1048576 + 1048576) % 1048576 = m := (tm_mod x2 1048576 (by omega)).trans hm
      obtain ⟨n, hn⟩ : ∃ n : Int, m.tdiv 3 = n := ⟨_, rfl⟩
      have hn1 : m / 3 = n := by rw [← hn, Int.tdiv_eq_ediv_of_nonneg b2]
      have hn2 : 0 ≤ n := by omega
      have hn3 : n ≤ 349526 := by omega
      have wr1 : IntKind.i64.wrap (x1.tmod 60 + 60) = x1.tmod 60 + 60 := IntWalk.i64_in _ (by omega)
      have wr2 : IntKind.i64.wrap (x2.tmod 1048576 + 1048576) = x2.tmod 1048576 + 1048576 := IntWalk.i64_in _ (by omega)
      have wr3 : IntKind.i64.wrap (n + 1) = n + 1 := IntWalk.i64_in _ (by omega)
      have HC := Lib.hid fun (W : World) hb => add_any w.heap.size f s (n + 1) W hb HG.out
      have HZ := Lib.hid (add_63 HG.out hs60 (n + 1) HE.out.2.2.2)
      have HGA := Lib.hid (add_good HG.out s (n + 1))
      have HB := Lib.hid HE.out.1.drew
      have HW := Lib.hid HE.out.2.2.1.drew
      clear HE
      go_wp2_with fail
      go_still_tail 19, (by kernel_rfl)
      change wpList _ _ _ _ _ wr.drew
      go_wp2_with fail
      refine (HC.out _ HB.out).mono ?_
      rintro e w2 ⟨rfl, hb2, hk2⟩
      have HE2 := Lib.hid (show RoI w w2 (addF f s (n + 1)) from ⟨hb2, HGA.out, turn_below HW.out (Nat.le_refl _) HW.out.size hk2, HZ.out⟩)
      clear hb2 hk2
      go_wp2_with fail
      go_roundw
      case rel => exact ⟨k + 1, _, by omega, by go_num, HE2⟩
      case measure => simp [intOf]; omega
    · have HB := Lib.hid HE.out.1
      have HW := Lib.hid HE.out.2.2.1
      have HZ := Lib.hid HE.out.2.2.2
      obtain ⟨a0, a1⟩ := tm_in p0 1048576 (by omega)
      obtain ⟨b0, b1⟩ := tm_nat p0 1048576 (by omega)
      obtain ⟨m, hm⟩ : ∃ m : Int, (p0.tmod 1048576 + 1048576).tmod 1048576 = m := ⟨_, rfl⟩
      rw [hm] at b0 b1
      have hm1 : (p0.tmod 1048576 + 1048576) % 1048576 = m := (tm_mod p0 1048576 (by omega)).trans hm
      have hm2 : p0.tmod 1048576 % 1048576 = m := by omega
      obtain ⟨S, hS⟩ : ∃ S, sumTo f 64 = S := ⟨_, rfl⟩
      have s0 : 0 ≤ S := by rw [← hS]; exact HG.out.pos
      have s1 : S ≤ 1048576 := by rw [← hS]; exact HG.out.sum
      clear HE
      have key : ∀ pp : Int, m + 1 = pp → ∀ W : World, BK BT W w.heap.size f → Calls Try.prog 25 #[.pointer (some ⟨w.heap.size, 0, none⟩), .int .i64 pp] W fun e w' => e = .returned (.int .i64 ((1048576 - S) * pp / 1048576)) ∧ Below W.heap.size W w' := by
        intro pp hpp W hb
        have h := room_book w.heap.size f pp W hb HG.out
        rw [hS] at h
        have e : roomV (1048576 - S) pp = (1048576 - S) * pp / 1048576 := if_pos (by omega)
        rwa [e] at h
      have HKEY := Lib.hid key
      have HS := Lib.hid hS
      clear key hS
      by_cases hl2 : k < l.length
      · have hg3 : (k : Int) < (l.length : Int) := by omega
        have hg5 : decide ((k : Int) < 50) = false := decide_eq_false (by omega)
        clear hlt hl2
        go_wp2_with fail
        obtain ⟨pp, hpp⟩ : ∃ pp : Int, m + 1 = pp := ⟨_, rfl⟩
        have hp1 : 1 ≤ pp := by omega
        have hp2 : pp ≤ 1048576 := by omega
        rw [hpp]
        have HR := Lib.hid (HKEY.out pp hpp)
        obtain ⟨q, hq⟩ : ∃ q : Int, (1048576 - S) * pp / 1048576 = q := ⟨_, rfl⟩
        obtain ⟨hm0, hmp, hm3, hm4⟩ := room_math (1048576 - S) pp q (by omega) (by omega) hp1 hp2 hq
        rw [hq] at HR
        have HM3 := Lib.hid hm3
        have HM4 := Lib.hid hm4
        clear HKEY hpp hq hm hm1 hm2 a0 a1 b0 b1 hm3 hm4
        refine (HR.out _ HB.out).mono ?_
        rintro e w3 ⟨rfl, hb3⟩
        have HB3 := Lib.hid (HB.out.below hb3)
        have HW3 := Lib.hid (bnext HW.out hb3)
        clear hb3 HR
        by_cases hq0 : q = 0
        · as_aux_lemma =>
            subst hq0
            obtain ⟨r2, hr2⟩ : ∃ r, (0 + 1) * 1048576 + pp - 1 = r := ⟨_, rfl⟩
            obtain ⟨r3, hr3⟩ : ∃ r, r2 / pp = r := ⟨_, rfl⟩
            obtain ⟨u3, u4⟩ := HM4.out (by omega)
            have HU2 := Lib.hid fun W => (by have := up_any (0 + 1) pp W (by omega) (by omega) hp1 hp2; rw [hr2, hr3] at this; exact this : Calls Try.prog 27 #[.int .i64 1, .int .i64 pp] W fun e w' => e = .returned (.int .i64 r3) ∧ W = w')
            rw [hr2, hr3] at u3 u4
            clear hr2 hr3
            have hqe : ((0 : Int) == pp) = false := by simp; omega
            clear HM3 HM4
            go_wp2_with fail
            refine (twin_book w.heap.size f _ HB3.out).mono ?_
            rintro e w7 ⟨rfl, ht7, hb7⟩
            have HT7 := Lib.hid ht7
            have HB7 := Lib.hid (HB3.out.below hb7)
            have HW7 := Lib.hid (bnext HW3.out hb7)
            have hne7 := HB3.out.lt
            have hzz7 := HW3.out.size
            clear ht7 hb7
            go_wp2_with fail
            refine (HU2.out _).mono ?_
            rintro e w8 ⟨rfl, rfl⟩
            go_wp2_with fail
            refine (add63_no _ f _ _ HT7.out HG.out HZ.out u4 (by rw [HS.out]; omega)).mono ?_
            rintro e w9 ⟨rfl, hb9, hk9⟩
            have HB9 := Lib.hid (HB7.out.keeps hk9 (by omega))
            have HW9 := Lib.hid (turn_below HW7.out (by omega) HW7.out.size hk9)
            clear hb9 hk9 HT7
            go_wp2_with fail
            refine (num_errno 80 _).mono ?_
            rintro e w20 ⟨rfl, rfl⟩
            go_wp2_with fail
            refine (works_any _).mono ?_
            rintro e w21 ⟨rfl, hb21⟩
            have HB21 := Lib.hid (bnext HW9.out hb21)
            clear hb21
            go_wp2_with fail
            go_ret
            exact ⟨rfl, HB21.out⟩
        · by_cases hqp : q = pp
          · as_aux_lemma =>
              obtain ⟨r1, hr1⟩ : ∃ r, (q * 1048576 + pp - 1) / pp = r := ⟨_, rfl⟩
              obtain ⟨u1, u2⟩ := HM3.out (by omega)
              have HU1 := Lib.hid fun W => (by have := up_any q pp W (by omega) (by omega) hp1 hp2; rw [hr1] at this; exact this : Calls Try.prog 27 #[.int .i64 q, .int .i64 pp] W fun e w' => e = .returned (.int .i64 r1) ∧ W = w')
              rw [hr1] at u1 u2
              clear hr1
              have hqe : (q == pp) = true := by simpa using hqp
              have hq1 : 0 < q := by omega
              clear hqp hq0 HM3 HM4
              go_wp2_with fail
              refine (twin_book w.heap.size f _ HB3.out).mono ?_
              rintro e w4 ⟨rfl, ht4, hb4⟩
              have HT4 := Lib.hid ht4
              have HB4 := Lib.hid (HB3.out.below hb4)
              have HW4 := Lib.hid (bnext HW3.out hb4)
              have hne4 := HB3.out.lt
              have hzz4 := HW3.out.size
              clear ht4 hb4
              go_wp2_with fail
              refine (HU1.out _).mono ?_
              rintro e w5 ⟨rfl, rfl⟩
              go_wp2_with fail
              refine (add63_ok _ f _ _ HT4.out HG.out HZ.out u1 (by rw [HS.out]; omega)).mono ?_
              rintro e w6 ⟨rfl, hb6, hk6⟩
              have HB6 := Lib.hid (HB4.out.keeps hk6 (by omega))
              have HW6 := Lib.hid (turn_below HW4.out (by omega) HW4.out.size hk6)
              clear hb6 hk6 HT4
              go_wp2_with fail
              refine (works_any _).mono ?_
              rintro e w21 ⟨rfl, hb21⟩
              have HB21 := Lib.hid (bnext HW6.out hb21)
              clear hb21
              go_wp2_with fail
              go_ret
              exact ⟨rfl, HB21.out⟩
          · as_aux_lemma =>
              obtain ⟨r1, hr1⟩ : ∃ r, (q * 1048576 + pp - 1) / pp = r := ⟨_, rfl⟩
              obtain ⟨u1, u2⟩ := HM3.out (by omega)
              have HU1 := Lib.hid fun W => (by have := up_any q pp W (by omega) (by omega) hp1 hp2; rw [hr1] at this; exact this : Calls Try.prog 27 #[.int .i64 q, .int .i64 pp] W fun e w' => e = .returned (.int .i64 r1) ∧ W = w')
              rw [hr1] at u1 u2
              clear hr1
              obtain ⟨r2, hr2⟩ : ∃ r, (q + 1) * 1048576 + pp - 1 = r := ⟨_, rfl⟩
              obtain ⟨r3, hr3⟩ : ∃ r, r2 / pp = r := ⟨_, rfl⟩
              obtain ⟨u3, u4⟩ := HM4.out (by omega)
              have HU2 := Lib.hid fun W => (by have := up_any (q + 1) pp W (by omega) (by omega) hp1 hp2; rw [hr2, hr3] at this; exact this : Calls Try.prog 27 #[.int .i64 (q + 1), .int .i64 pp] W fun e w' => e = .returned (.int .i64 r3) ∧ W = w')
              rw [hr2, hr3] at u3 u4
              clear hr2 hr3
              have hqe : (q == pp) = false := by simpa using hqp
              have hq1 : 0 < q := by omega
              clear hqp hq0 HM3 HM4
              go_wp2_with fail
              refine (twin_book w.heap.size f _ HB3.out).mono ?_
              rintro e w4 ⟨rfl, ht4, hb4⟩
              have HT4 := Lib.hid ht4
              have HB4 := Lib.hid (HB3.out.below hb4)
              have HW4 := Lib.hid (bnext HW3.out hb4)
              have hne4 := HB3.out.lt
              have hzz4 := HW3.out.size
              clear ht4 hb4
              go_wp2_with fail
              refine (HU1.out _).mono ?_
              rintro e w5 ⟨rfl, rfl⟩
              go_wp2_with fail
              refine (add63_ok _ f _ _ HT4.out HG.out HZ.out u1 (by rw [HS.out]; omega)).mono ?_
              rintro e w6 ⟨rfl, hb6, hk6⟩
              have HB6 := Lib.hid (HB4.out.keeps hk6 (by omega))
              have HW6 := Lib.hid (turn_below HW4.out (by omega) HW4.out.size hk6)
              clear hb6 hk6 HT4
              go_wp2_with fail
              refine (twin_book w.heap.size f _ HB6.out).mono ?_
              rintro e w7 ⟨rfl, ht7, hb7⟩
              have HT7 := Lib.hid ht7
              have HB7 := Lib.hid (HB6.out.below hb7)
              have HW7 := Lib.hid (bnext HW6.out hb7)
              have hne7 := HB6.out.lt
              have hzz7 := HW6.out.size
              clear ht7 hb7
              go_wp2_with fail
              refine (HU2.out _).mono ?_
              rintro e w8 ⟨rfl, rfl⟩
              go_wp2_with fail
              refine (add63_no _ f _ _ HT7.out HG.out HZ.out u4 (by rw [HS.out]; omega)).mono ?_
              rintro e w9 ⟨rfl, hb9, hk9⟩
              have HB9 := Lib.hid (HB7.out.keeps hk9 (by omega))
              have HW9 := Lib.hid (turn_below HW7.out (by omega) HW7.out.size hk9)
              clear hb9 hk9 HT7
              go_wp2_with fail
              refine (num_errno 80 _).mono ?_
              rintro e w20 ⟨rfl, rfl⟩
              go_wp2_with fail
              refine (works_any _).mono ?_
              rintro e w21 ⟨rfl, hb21⟩
              have HB21 := Lib.hid (bnext HW9.out hb21)
              clear hb21
              go_wp2_with fail
              go_ret
              exact ⟨rfl, HB21.out⟩
      · have hg3 : decide (k < l.length) = false := decide_eq_false hl2
        clear hlt hl2
        go_wp2_with fail
        obtain ⟨pp, hpp⟩ : ∃ pp : Int, m + 1 = pp := ⟨_, rfl⟩
        have hp1 : 1 ≤ pp := by omega
        have hp2 : pp ≤ 1048576 := by omega
        rw [hpp]
        have HR := Lib.hid (HKEY.out pp hpp)
        obtain ⟨q, hq⟩ : ∃ q : Int, (1048576 - S) * pp / 1048576 = q := ⟨_, rfl⟩
        obtain ⟨hm0, hmp, hm3, hm4⟩ := room_math (1048576 - S) pp q (by omega) (by omega) hp1 hp2 hq
        rw [hq] at HR
        have HM3 := Lib.hid hm3
        have HM4 := Lib.hid hm4
        clear HKEY hpp hq hm hm1 hm2 a0 a1 b0 b1 hm3 hm4
        refine (HR.out _ HB.out).mono ?_
        rintro e w3 ⟨rfl, hb3⟩
        have HB3 := Lib.hid (HB.out.below hb3)
        have HW3 := Lib.hid (bnext HW.out hb3)
        clear hb3 HR
        by_cases hq0 : q = 0
        · as_aux_lemma =>
            subst hq0
            obtain ⟨r2, hr2⟩ : ∃ r, (0 + 1) * 1048576 + pp - 1 = r := ⟨_, rfl⟩
            obtain ⟨r3, hr3⟩ : ∃ r, r2 / pp = r := ⟨_, rfl⟩
            obtain ⟨u3, u4⟩ := HM4.out (by omega)
            have HU2 := Lib.hid fun W => (by have := up_any (0 + 1) pp W (by omega) (by omega) hp1 hp2; rw [hr2, hr3] at this; exact this : Calls Try.prog 27 #[.int .i64 1, .int .i64 pp] W fun e w' => e = .returned (.int .i64 r3) ∧ W = w')
            rw [hr2, hr3] at u3 u4
            clear hr2 hr3
            have hqe : ((0 : Int) == pp) = false := by simp; omega
            clear HM3 HM4
            go_wp2_with fail
            refine (twin_book w.heap.size f _ HB3.out).mono ?_
            rintro e w7 ⟨rfl, ht7, hb7⟩
            have HT7 := Lib.hid ht7
            have HB7 := Lib.hid (HB3.out.below hb7)
            have HW7 := Lib.hid (bnext HW3.out hb7)
            have hne7 := HB3.out.lt
            have hzz7 := HW3.out.size
            clear ht7 hb7
            go_wp2_with fail
            refine (HU2.out _).mono ?_
            rintro e w8 ⟨rfl, rfl⟩
            go_wp2_with fail
            refine (add63_no _ f _ _ HT7.out HG.out HZ.out u4 (by rw [HS.out]; omega)).mono ?_
            rintro e w9 ⟨rfl, hb9, hk9⟩
            have HB9 := Lib.hid (HB7.out.keeps hk9 (by omega))
            have HW9 := Lib.hid (turn_below HW7.out (by omega) HW7.out.size hk9)
            clear hb9 hk9 HT7
            go_wp2_with fail
            refine (num_errno 80 _).mono ?_
            rintro e w20 ⟨rfl, rfl⟩
            go_wp2_with fail
            refine (works_any _).mono ?_
            rintro e w21 ⟨rfl, hb21⟩
            have HB21 := Lib.hid (bnext HW9.out hb21)
            clear hb21
            go_wp2_with fail
            go_ret
            exact ⟨rfl, HB21.out⟩
        · by_cases hqp : q = pp
          · as_aux_lemma =>
              obtain ⟨r1, hr1⟩ : ∃ r, (q * 1048576 + pp - 1) / pp = r := ⟨_, rfl⟩
              obtain ⟨u1, u2⟩ := HM3.out (by omega)
              have HU1 := Lib.hid fun W => (by have := up_any q pp W (by omega) (by omega) hp1 hp2; rw [hr1] at this; exact this : Calls Try.prog 27 #[.int .i64 q, .int .i64 pp] W fun e w' => e = .returned (.int .i64 r1) ∧ W = w')
              rw [hr1] at u1 u2
              clear hr1
              have hqe : (q == pp) = true := by simpa using hqp
              have hq1 : 0 < q := by omega
              clear hqp hq0 HM3 HM4
              go_wp2_with fail
              refine (twin_book w.heap.size f _ HB3.out).mono ?_
              rintro e w4 ⟨rfl, ht4, hb4⟩
              have HT4 := Lib.hid ht4
              have HB4 := Lib.hid (HB3.out.below hb4)
              have HW4 := Lib.hid (bnext HW3.out hb4)
              have hne4 := HB3.out.lt
              have hzz4 := HW3.out.size
              clear ht4 hb4
              go_wp2_with fail
              refine (HU1.out _).mono ?_
              rintro e w5 ⟨rfl, rfl⟩
              go_wp2_with fail
              refine (add63_ok _ f _ _ HT4.out HG.out HZ.out u1 (by rw [HS.out]; omega)).mono ?_
              rintro e w6 ⟨rfl, hb6, hk6⟩
              have HB6 := Lib.hid (HB4.out.keeps hk6 (by omega))
              have HW6 := Lib.hid (turn_below HW4.out (by omega) HW4.out.size hk6)
              clear hb6 hk6 HT4
              go_wp2_with fail
              refine (works_any _).mono ?_
              rintro e w21 ⟨rfl, hb21⟩
              have HB21 := Lib.hid (bnext HW6.out hb21)
              clear hb21
              go_wp2_with fail
              go_ret
              exact ⟨rfl, HB21.out⟩
          · as_aux_lemma =>
              obtain ⟨r1, hr1⟩ : ∃ r, (q * 1048576 + pp - 1) / pp = r := ⟨_, rfl⟩
              obtain ⟨u1, u2⟩ := HM3.out (by omega)
              have HU1 := Lib.hid fun W => (by have := up_any q pp W (by omega) (by omega) hp1 hp2; rw [hr1] at this; exact this : Calls Try.prog 27 #[.int .i64 q, .int .i64 pp] W fun e w' => e = .returned (.int .i64 r1) ∧ W = w')
              rw [hr1] at u1 u2
              clear hr1
              obtain ⟨r2, hr2⟩ : ∃ r, (q + 1) * 1048576 + pp - 1 = r := ⟨_, rfl⟩
              obtain ⟨r3, hr3⟩ : ∃ r, r2 / pp = r := ⟨_, rfl⟩
              obtain ⟨u3, u4⟩ := HM4.out (by omega)
              have HU2 := Lib.hid fun W => (by have := up_any (q + 1) pp W (by omega) (by omega) hp1 hp2; rw [hr2, hr3] at this; exact this : Calls Try.prog 27 #[.int .i64 (q + 1), .int .i64 pp] W fun e w' => e = .returned (.int .i64 r3) ∧ W = w')
              rw [hr2, hr3] at u3 u4
              clear hr2 hr3
              have hqe : (q == pp) = false := by simpa using hqp
              have hq1 : 0 < q := by omega
              clear hqp hq0 HM3 HM4
              go_wp2_with fail
              refine (twin_book w.heap.size f _ HB3.out).mono ?_
              rintro e w4 ⟨rfl, ht4, hb4⟩
              have HT4 := Lib.hid ht4
              have HB4 := Lib.hid (HB3.out.below hb4)
              have HW4 := Lib.hid (bnext HW3.out hb4)
              have hne4 := HB3.out.lt
              have hzz4 := HW3.out.size
              clear ht4 hb4
              go_wp2_with fail
              refine (HU1.out _).mono ?_
              rintro e w5 ⟨rfl, rfl⟩
              go_wp2_with fail
              refine (add63_ok _ f _ _ HT4.out HG.out HZ.out u1 (by rw [HS.out]; omega)).mono ?_
              rintro e w6 ⟨rfl, hb6, hk6⟩
              have HB6 := Lib.hid (HB4.out.keeps hk6 (by omega))
              have HW6 := Lib.hid (turn_below HW4.out (by omega) HW4.out.size hk6)
              clear hb6 hk6 HT4
              go_wp2_with fail
              refine (twin_book w.heap.size f _ HB6.out).mono ?_
              rintro e w7 ⟨rfl, ht7, hb7⟩
              have HT7 := Lib.hid ht7
              have HB7 := Lib.hid (HB6.out.below hb7)
              have HW7 := Lib.hid (bnext HW6.out hb7)
              have hne7 := HB6.out.lt
              have hzz7 := HW6.out.size
              clear ht7 hb7
              go_wp2_with fail
              refine (HU2.out _).mono ?_
              rintro e w8 ⟨rfl, rfl⟩
              go_wp2_with fail
              refine (add63_no _ f _ _ HT7.out HG.out HZ.out u4 (by rw [HS.out]; omega)).mono ?_
              rintro e w9 ⟨rfl, hb9, hk9⟩
              have HB9 := Lib.hid (HB7.out.keeps hk9 (by omega))
              have HW9 := Lib.hid (turn_below HW7.out (by omega) HW7.out.size hk9)
              clear hb9 hk9 HT7
              go_wp2_with fail
              refine (num_errno 80 _).mono ?_
              rintro e w20 ⟨rfl, rfl⟩
              go_wp2_with fail
              refine (works_any _).mono ?_
              rintro e w21 ⟨rfl, hb21⟩
              have HB21 := Lib.hid (bnext HW9.out hb21)
              clear hb21
              go_wp2_with fail
              go_ret
              exact ⟨rfl, HB21.out⟩
end Go.Proofs.Ytilbohjkkdkdiaa
