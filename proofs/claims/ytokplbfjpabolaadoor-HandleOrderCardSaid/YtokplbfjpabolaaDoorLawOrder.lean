/- The walk of the law HandleOrder: it answers true for every two numbers; it writes nothing that was there. -/
import Derived.Test.YtokplbfjpabolaaDoorHWorks
import Derived.Deep.QuietTactic
import Derived.BigQuiet
namespace Go.Proofs.YtokplbfjpabolaaDoor
open Go.RowKit

set_option maxHeartbeats 1000000 in
set_option maxRecDepth 100000 in
theorem order_no (a b : Int) (w : World) (hg : LaidAt w) (h : ¬ (okH a ∧ okH b)) :
    Calls Tryd.prog 7 #[.int .i64 a, .int .i64 b] w fun e w' => e = .returned (.bool true) ∧ Below w.heap.size w w' := by
  have JG := Lib.hid hg
  clear hg
  by_cases ka : okH a
  · have kb : ¬ okH b := fun k => h ⟨ka, k⟩
    clear h
    go_enter Tryd.func7, Tryd.ntmps7
    go_wp2_with fail
    refine (valid_ok a _ ka).mono ?_
    rintro e w1 ⟨rfl, rfl⟩
    go_wp2_with fail
    refine (valid_no b _ kb).mono ?_
    rintro e w1 ⟨rfl, rfl⟩
    go_wp2_with fail
    refine (works_any _ JG.out).mono ?_
    rintro e w1 ⟨rfl, hb⟩
    go_wp2_with fail
    go_ret
    exact ⟨rfl, hb⟩
  · clear h
    go_enter Tryd.func7, Tryd.ntmps7
    go_wp2_with fail
    refine (valid_no a _ ka).mono ?_
    rintro e w1 ⟨rfl, rfl⟩
    go_wp2_with fail
    refine (works_any _ JG.out).mono ?_
    rintro e w1 ⟨rfl, hb⟩
    go_wp2_with fail
    go_ret
    exact ⟨rfl, hb⟩

def cst (x y c : Int) : Int := if x < y then -1 else if y < x then 1 else c
theorem cst_lt {x y c : Int} (h : x < y) : cst x y c = -1 := if_pos h
theorem cst_gt {x y c : Int} (h : y < x) : cst x y c = 1 := by unfold cst; rw [if_neg (by omega), if_pos h]
theorem cst_eq {x y c : Int} (h : ¬ x < y) (g : ¬ y < x) : cst x y c = c := by unfold cst; rw [if_neg h, if_neg g]
def ordC (k1 k2 s1 s2 g1 g2 : Int) : Nat → Int
  | 0 => 0
  | 1 => cst g1 g2 0
  | 2 => cst s1 s2 (cst g1 g2 0)
  | _ => cst k1 k2 (cst s1 s2 (cst g1 g2 0))
/-- A slice's three cells. -/
structure Three (w : World) (b : Nat) (x y z : Int) : Prop where
  c0 : w.cell? ⟨b, 0, none⟩ = some (.int .i64 x)
  c1 : w.cell? ⟨b, 1, none⟩ = some (.int .i64 y)
  c2 : w.cell? ⟨b, 2, none⟩ = some (.int .i64 z)
theorem Three.drewN {w : World} {b : Nat} {x y z : Int} (h : Three w b x y z) (n : Nat) : Three (w.drewN n) b x y z := ⟨h.c0, h.c1, h.c2⟩
theorem below_drewN {B : Nat} {a w : World} (h : Below B a w) (n : Nat) : Below B a (w.drewN n) := ⟨h.os, h.tape, h.output, h.size, h.block⟩

set_option maxHeartbeats 4000000 in
set_option maxRecDepth 100000 in
theorem order_core (a b d k1 k2 s1 s2 g1 g2 : Int) (w : World) (hg : LaidAt w) (hd : (a < b ∧ d = -1) ∨ (a = b ∧ d = 0) ∨ (b < a ∧ d = 1)) (hc : ordC k1 k2 s1 s2 g1 g2 3 = d)
    (V1 : ∀ w, Calls Tryd.prog 15 #[.int .i64 a] w fun e w' => e = .returned (.bool true) ∧ w = w')
    (V2 : ∀ w, Calls Tryd.prog 15 #[.int .i64 b] w fun e w' => e = .returned (.bool true) ∧ w = w')
    (K1 : ∀ w, Calls Tryd.prog 17 #[.int .i64 a] w fun e w' => e = .returned (.int .i64 k1) ∧ w = w')
    (K2 : ∀ w, Calls Tryd.prog 17 #[.int .i64 b] w fun e w' => e = .returned (.int .i64 k2) ∧ w = w')
    (S1 : ∀ w, Calls Tryd.prog 19 #[.int .i64 a] w fun e w' => e = .returned (.int .i64 s1) ∧ w = w')
    (S2 : ∀ w, Calls Tryd.prog 19 #[.int .i64 b] w fun e w' => e = .returned (.int .i64 s2) ∧ w = w')
    (G1 : ∀ w, Calls Tryd.prog 21 #[.int .i64 a] w fun e w' => e = .returned (.int .i64 g1) ∧ w = w')
    (G2 : ∀ w, Calls Tryd.prog 21 #[.int .i64 b] w fun e w' => e = .returned (.int .i64 g2) ∧ w = w')
    (M1 : ∀ w, Calls Tryd.prog 9 #[.int .i64 k1, .int .i64 s1, .int .i64 g1] w fun e w' => e = .returned (.tuple #[.int .i64 a, .nilIface]) ∧ w = w') :
    Calls Tryd.prog 7 #[.int .i64 a, .int .i64 b] w fun e w' => e = .returned (.bool true) ∧ Below w.heap.size w w' := by
  have JG := Lib.hid hg
  have HV1 := Lib.hid V1
  have HV2 := Lib.hid V2
  have HK1 := Lib.hid K1
  have HK2 := Lib.hid K2
  have HS1 := Lib.hid S1
  have HS2 := Lib.hid S2
  have HG1 := Lib.hid G1
  have HG2 := Lib.hid G2
  have HM := Lib.hid M1
  have HD := Lib.hid hd
  have HC := Lib.hid hc
  clear hg V1 V2 K1 K2 S1 S2 G1 G2 M1 hd hc
  go_enter Tryd.func7, Tryd.ntmps7
  go_wp2_with fail
  refine (HV1.out _).mono ?_
  rintro e w1 ⟨rfl, rfl⟩
  go_wp2_with fail
  refine (HV2.out _).mono ?_
  rintro e w1 ⟨rfl, rfl⟩
  go_wp2_with fail
  refine (HK1.out _).mono ?_
  rintro e w1 ⟨rfl, rfl⟩
  go_wp2_with fail
  refine (HS1.out _).mono ?_
  rintro e w1 ⟨rfl, rfl⟩
  go_wp2_with fail
  refine (HG1.out _).mono ?_
  rintro e w1 ⟨rfl, rfl⟩
  go_wp2_with fail
  refine (HK2.out _).mono ?_
  rintro e w1 ⟨rfl, rfl⟩
  go_wp2_with fail
  refine (HS2.out _).mono ?_
  rintro e w1 ⟨rfl, rfl⟩
  go_wp2_with fail
  refine (HG2.out _).mono ?_
  rintro e w1 ⟨rfl, rfl⟩
  go_wp2_with fail
  have hb0 : Below w.heap.size w ((w.alloc (.cells #[.int .i64 k1, .int .i64 s1, .int .i64 g1] 3)).alloc (.cells #[.int .i64 k2, .int .i64 s2, .int .i64 g2] 3)) := ((Below.refl _ _).alloc (Nat.le_refl _) _).alloc (by simp) _
  go_loopw [7, 8] (fun c i wr => ∃ (j : Nat) (x : Int), j ≤ 3 ∧ i = .int .i64 (2 - (j : Int)) ∧ c = .int .i64 x ∧ Hid (x = ordC k1 k2 s1 s2 g1 g2 j) ∧ Three wr w.heap.size k1 s1 g1 ∧ Three wr (w.heap.size + 1) k2 s2 g2 ∧ Below w.heap.size w wr) (fun _ i _ => (intOf i + 1).toNat)
  case atStart => exact ⟨0, 0, by omega, rfl, rfl, Lib.hid rfl, ⟨by simp, by simp, by simp⟩, ⟨by simp, by simp, by simp⟩, hb0⟩
  case round =>
    obtain ⟨j, x, hj, rfl, rfl, HX, h1, h2, hb⟩ := hrel
    obtain ⟨x0, x1, x2⟩ := id h1
    obtain ⟨y0, y1, y2⟩ := id h2
    clear hb0
    have hjj : j = 0 ∨ j = 1 ∨ j = 2 ∨ j = 3 := by omega
    clear hj
    rcases hjj with rfl | rfl | rfl | rfl
    · by_cases hlt : g1 < g2
      · go_wp2_with fail
        go_quiet (fail)
        go_wp2_with fail
        go_roundw
        case rel => exact ⟨0 + 1, -1, by omega, by go_num, rfl, Lib.hid (cst_lt hlt).symm, h1.drewN _, h2.drewN _, below_drewN hb _⟩
        case measure => simp [intOf]
      · by_cases hgt : g2 < g1
        · go_wp2_with fail
          go_quiet (fail)
          go_wp2_with fail
          go_quiet (fail)
          go_wp2_with fail
          go_roundw
          case rel => exact ⟨0 + 1, 1, by omega, by go_num, rfl, Lib.hid (cst_gt hgt).symm, h1.drewN _, h2.drewN _, below_drewN hb _⟩
          case measure => simp [intOf]
        · go_wp2_with fail
          go_quiet (fail)
          go_wp2_with fail
          go_quiet (fail)
          go_wp2_with fail
          go_roundw
          case rel => exact ⟨0 + 1, x, by omega, by go_num, rfl, Lib.hid (HX.out.trans (cst_eq (by omega) (by omega)).symm), h1.drewN _, h2.drewN _, below_drewN hb _⟩
          case measure => simp [intOf]
    · by_cases hlt : s1 < s2
      · go_wp2_with fail
        go_quiet (fail)
        go_wp2_with fail
        go_roundw
        case rel => exact ⟨1 + 1, -1, by omega, by go_num, rfl, Lib.hid (cst_lt hlt).symm, h1.drewN _, h2.drewN _, below_drewN hb _⟩
        case measure => simp [intOf]
      · by_cases hgt : s2 < s1
        · go_wp2_with fail
          go_quiet (fail)
          go_wp2_with fail
          go_quiet (fail)
          go_wp2_with fail
          go_roundw
          case rel => exact ⟨1 + 1, 1, by omega, by go_num, rfl, Lib.hid (cst_gt hgt).symm, h1.drewN _, h2.drewN _, below_drewN hb _⟩
          case measure => simp [intOf]
        · go_wp2_with fail
          go_quiet (fail)
          go_wp2_with fail
          go_quiet (fail)
          go_wp2_with fail
          go_roundw
          case rel => exact ⟨1 + 1, x, by omega, by go_num, rfl, Lib.hid (HX.out.trans (cst_eq (by omega) (by omega)).symm), h1.drewN _, h2.drewN _, below_drewN hb _⟩
          case measure => simp [intOf]
    · by_cases hlt : k1 < k2
      · go_wp2_with fail
        go_quiet (fail)
        go_wp2_with fail
        go_roundw
        case rel => exact ⟨2 + 1, -1, by omega, by go_num, rfl, Lib.hid (cst_lt hlt).symm, h1.drewN _, h2.drewN _, below_drewN hb _⟩
        case measure => simp [intOf]
      · by_cases hgt : k2 < k1
        · go_wp2_with fail
          go_quiet (fail)
          go_wp2_with fail
          go_quiet (fail)
          go_wp2_with fail
          go_roundw
          case rel => exact ⟨2 + 1, 1, by omega, by go_num, rfl, Lib.hid (cst_gt hgt).symm, h1.drewN _, h2.drewN _, below_drewN hb _⟩
          case measure => simp [intOf]
        · go_wp2_with fail
          go_quiet (fail)
          go_wp2_with fail
          go_quiet (fail)
          go_wp2_with fail
          go_roundw
          case rel => exact ⟨2 + 1, x, by omega, by go_num, rfl, Lib.hid (HX.out.trans (cst_eq (by omega) (by omega)).symm), h1.drewN _, h2.drewN _, below_drewN hb _⟩
          case measure => simp [intOf]
    · obtain rfl : x = d := HX.out.trans HC.out
      have hL := JG.out.below hb
      have JL := Lib.hid hL
      clear hL
      rcases HD.out with ⟨hab, rfl⟩ | ⟨rfl, rfl⟩ | ⟨hab, rfl⟩
      all_goals
        go_wp2_with fail
        go_quiet ((go_at_call 9; exact Calls.quiet_of_same ((HM.out _).mono fun _ _ h => ⟨h.1, h.2.symm⟩)))
        go_wp2_with fail
        refine (works_any _ (JL.out.below (below_drewN (Below.refl _ _) _))).mono ?_
        rintro e w1 ⟨rfl, hb1⟩
        go_wp2_with fail
        go_ret
        exact ⟨ret_bool (by first | rfl | (simp; omega)), bnext (below_drewN hb _) hb1⟩

theorem order_any (a b : Int) (w : World) (hg : LaidAt w) :
    Calls Tryd.prog 7 #[.int .i64 a, .int .i64 b] w fun e w' => e = .returned (.bool true) ∧ Below w.heap.size w w' := by
  by_cases h : okH a ∧ okH b
  · obtain ⟨ka, kb⟩ := h
    have HL := lt_parts ka kb
    have HL2 := lt_parts kb ka
    have HE := eq_parts (a := a) (b := b)
    have hm := fun w => make_ok _ _ _ w ka
    rw [mk_of] at hm
    refine order_core a b (ordC (kOf a) (kOf b) (sOf a) (sOf b) (gOf a) (gOf b) 3) _ _ _ _ _ _ w hg ?_ rfl (fun w => valid_ok a w ka) (fun w => valid_ok b w kb) (fun w => kind_ok a w ka) (fun w => kind_ok b w kb) (fun w => slot_ok a w ka) (fun w => slot_ok b w kb) (fun w => gen_ok a w ka) (fun w => gen_ok b w kb) hm
    show (a < b ∧ cst (kOf a) (kOf b) (cst (sOf a) (sOf b) (cst (gOf a) (gOf b) 0)) = -1) ∨ (a = b ∧ cst (kOf a) (kOf b) (cst (sOf a) (sOf b) (cst (gOf a) (gOf b) 0)) = 0) ∨ (b < a ∧ cst (kOf a) (kOf b) (cst (sOf a) (sOf b) (cst (gOf a) (gOf b) 0)) = 1)
    unfold cst
    repeat' split
    all_goals omega
  · exact order_no a b w hg h
end Go.Proofs.YtokplbfjpabolaaDoor
