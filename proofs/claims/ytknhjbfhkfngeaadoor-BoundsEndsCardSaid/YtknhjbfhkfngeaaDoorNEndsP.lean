/- The program's Ends; no condition but those that each row names. -/
import Derived.Test.YtknhjbfhkfngeaaDoorNEnds
import Derived.Test.YtknhjbfhkfngeaaDoorNIts
namespace Go.Proofs.YtknhjbfhkfngeaaDoor
open Go.RowKit

theorem pvalid_ok (q p : Int) (w : World) (h : okR q p) :
    Calls Tryd.prog 30 #[.agg #[.int .i64 q, .int .i64 p]] w fun e w' => e = .returned .nilIface ∧ Below w.heap.size w w' := by
  obtain ⟨h1, h2, h3⟩ := h
  go_enter Tryd.func30, Tryd.ntmps30
  go_wp2
  go_ret
  exact ⟨rfl, (Below.refl _ _).alloc (Nat.le_refl _) _⟩
theorem pvalid_no (q p : Int) (w : World) (h : ¬ okR q p) :
    Calls Tryd.prog 30 #[.agg #[.int .i64 q, .int .i64 p]] w fun e w' => e = .returned (.iface 61 (.int .i64 2)) ∧ Below w.heap.size w w' := by
  by_cases h1 : q < 1
  · go_enter Tryd.func30, Tryd.ntmps30
    go_wp2
    go_ret
    exact ⟨rfl, (Below.refl _ _).alloc (Nat.le_refl _) _⟩
  · by_cases h2 : 1048576 < p
    · go_enter Tryd.func30, Tryd.ntmps30
      go_wp2
      go_ret
      exact ⟨rfl, (Below.refl _ _).alloc (Nat.le_refl _) _⟩
    · have h3 : p < q := by unfold okR at h; omega
      clear h
      go_enter Tryd.func30, Tryd.ntmps30
      go_wp2
      go_ret
      exact ⟨rfl, (Below.refl _ _).alloc (Nat.le_refl _) _⟩
abbrev peno (n : Int) : Value := .iface 61 (.int .i64 n)
/-- No list, and an error. -/
def NilP (w : World) (n : Int) (e : Ending) (w' : World) : Prop := e = .returned (.tuple #[.slice none 0 0, peno n]) ∧ Below w.heap.size w w'
set_option maxHeartbeats 1000000 in
theorem pends_arg (q p a b : Int) (w : World) (h : a < 0 ∨ b < a) : Calls Tryd.prog 19 #[.agg #[.int .i64 q, .int .i64 p], .int .i64 a, .int .i64 b] w (NilP w 1) := by
  by_cases h1 : a < 0
  · clear h
    go_enter Tryd.func19, Tryd.ntmps19
    go_wp2_with fail
    go_ret2
    exact ⟨rfl, (Below.refl _ _).alloc (Nat.le_refl _) _⟩
  · have h2 : b < a := by omega
    have h3 : decide (a < 0) = false := decide_eq_false h1
    clear h
    go_enter Tryd.func19, Tryd.ntmps19
    go_wp2_with fail
    go_ret2
    exact ⟨rfl, (Below.refl _ _).alloc (Nat.le_refl _) _⟩
set_option maxHeartbeats 1000000 in
theorem pends_range (q p a b : Int) (w : World) (h0 : 0 ≤ a) (h1 : a ≤ b) (h : ¬ okR q p) : Calls Tryd.prog 19 #[.agg #[.int .i64 q, .int .i64 p], .int .i64 a, .int .i64 b] w (NilP w 2) := by
  have HV := Lib.hid (fun w => pvalid_no q p w h)
  clear h
  go_enter Tryd.func19, Tryd.ntmps19
  go_wp2_with fail
  refine (HV.out _).mono ?_
  rintro e w2 ⟨rfl, hb2⟩
  have HB2 := Lib.hid (show Below w.heap.size w w2 from ((Below.refl w.heap.size w).alloc (Nat.le_refl _) _).trans (hb2.mono (by simp)))
  clear hb2
  go_wp2_with fail
  go_ret2
  exact ⟨rfl, HB2.out⟩
set_option maxHeartbeats 2000000 in
set_option maxRecDepth 100000 in
theorem pends_ok (q P a b : Nat) (w : World) (h : okR q P) (hab : a ≤ b) (hb : b ≤ 9223372036854775807) (hm : (b - a) / P ≤ 4096) :
    Calls Tryd.prog 19 #[.agg #[.int .i64 (q : Nat), .int .i64 (P : Nat)], .int .i64 (a : Nat), .int .i64 (b : Nat)] w (EndsPost w a P ((b - a) / P) .nilIface) := by
  have HV := Lib.hid (fun w => pvalid_ok q P w h)
  obtain ⟨h1, h2, h3⟩ := h
  obtain ⟨i0, hi, hz0, hz1, hz2⟩ := info_parts Tryd.info3
  obtain ⟨D, hD⟩ : ∃ D, D = b - a := ⟨_, rfl⟩
  rw [← hD] at hm ⊢
  obtain ⟨m, hmd⟩ : ∃ m, m = D / P := ⟨_, rfl⟩
  rw [← hmd] at hm ⊢
  have hdm : m * P ≤ D := by rw [hmd]; exact Nat.div_mul_le_self D P
  have a0 : (0 : Int) ≤ (a : Int) := by omega
  have a1 : (a : Int) ≤ (b : Int) := by omega
  have a2 : (0 : Int) ≤ (b : Int) := by omega
  have e1 : IntKind.i64.wrap ((b : Int) - (a : Int)) = (D : Nat) := by rw [show (b : Int) - (a : Int) = (D : Nat) by omega]; exact IntWalk.i64_in _ (by omega)
  have e2 : ((D : Nat) : Int).tdiv (P : Nat) = (m : Nat) := by rw [hmd]; rfl
  have hmi : (m : Int) ≤ 4096 := by omega
  have HDM := Lib.hid hdm
  have HD := Lib.hid hD
  clear hmd hdm hD
  go_enter Tryd.func19, Tryd.ntmps19
  go_wp2_with fail
  refine (HV.out _).mono ?_
  rintro e w2 ⟨rfl, hb2⟩
  have hc1 : w2.cell? ⟨w.heap.size, 1, none⟩ = some (.int .i64 (P : Nat)) := (hb2.cell (p := ⟨w.heap.size, 1, none⟩) (by simp)).trans (by simp)
  have HB2 := Lib.hid (show Below w.heap.size w w2 from ((Below.refl w.heap.size w).alloc (Nat.le_refl _) _).trans (hb2.mono (by simp)))
  clear hb2
  have HZ := Lib.hid (num_zeros m)
  have HF0 := Lib.hid (hlf_0 fun j => ((a + (j + 1) * P : Nat) : Int))
  have HFA := Lib.hid (hlf_at fun j => ((a + (j + 1) * P : Nat) : Int))
  have HFU := Lib.hid (hlf_upd fun j => ((a + (j + 1) * P : Nat) : Int))
  have HX := Lib.hid (show ∀ k, k < m → (k + 1) * P ≤ D from fun k hk => Nat.le_trans (Nat.mul_le_mul_right P (show k + 1 ≤ m from hk)) HDM.out)
  have hDb : (a : Int) + (D : Int) ≤ 9223372036854775807 := by have := HD.out; omega
  have hws := HB2.out.size
  clear hab
  go_wp2_with (at_make; refine wpList_make_full _ rfl _ _ 36 rfl w.heap.size 3 i0 (.int .i64 0) 1 Tryd.underlying36 hi hz0 hz1 .i64 .i64 _ _ m rfl rfl (by first | rfl | omega) (by first | rfl | omega) (by rw [hz2]; omega) (by unfold maxLen; omega) hws ?_; intro w3 hown3 hgrow3)
  rw [HZ.out, ← HF0.out] at hown3
  have HO3 := Lib.hid hown3
  have HB3 := Lib.hid (HB2.out.grown hgrow3 hws (fun g e => by cases e))
  have HK3 := Lib.hid (show Below w2.heap.size w2 w3 from below_of_grown hgrow3)
  have hc3 : ∀ w4, Below w3.heap.size w3 w4 → w4.cell? ⟨w.heap.size, 1, none⟩ = some (.int .i64 (P : Nat)) := fun w4 h4 => ((bnext HK3.out h4).cell (p := ⟨w.heap.size, 1, none⟩) (cell_lt hc1)).trans hc1
  have hRw : w.heap.size < w2.heap.size := cell_lt hc1
  clear hown3 hgrow3
  have HC3 := Lib.hid (hc3 w3 (Below.refl _ _))
  have hRl : w2.heap.size < w3.heap.size := (World.ownsRow.lt HO3.out _ rfl).2
  generalize w2.heap.size = R at *
  clear hc3 hc1 HK3 HZ hws
  go_loopw [38] (fun iv wr => ∃ k : Nat, iv = .int .i64 k ∧ k ≤ m ∧ Hid (NumsO w.heap.size wr (.slice (some ⟨R, 0, none⟩) m m) m (hlf (fun j => ((a + (j + 1) * P : Nat) : Int)) k)) ∧ Hid (Below w.heap.size w wr) ∧ Hid (wr.cell? ⟨w.heap.size, 1, none⟩ = some (.int .i64 (P : Nat)))) (fun iv _ => m - (intOf iv).toNat)
  case atStart => exact ⟨0, rfl, Nat.zero_le _, HO3, HB3, HC3⟩
  case round =>
    obtain ⟨k, rfl, hk, HO, HB, HC⟩ := hrel
    clear HO3 HB3 HC3
    by_cases hlt : k < m
    · have hlt' : (k : Int) < (m : Int) := by omega
      have c1 := HC.out
      have HY := Lib.hid (HX.out k hlt)
      have HU := Lib.hid (HFU.out k)
      have c0 := num_at HO.out hlt
      rw [HFA.out k] at c0
      have zf := World.ownsRow.frozenAt HO.out k
      obtain ⟨Y, hY⟩ : ∃ Y, Y = (k + 1) * P := ⟨_, rfl⟩
      obtain ⟨Z, hZ⟩ : ∃ Z, Z = a + Y := ⟨_, rfl⟩
      have hYD : Y ≤ D := by rw [hY]; exact HY.out
      have e3 : IntKind.i64.wrap (((k : Int) + 1) * (P : Int)) = (Y : Nat) := by rw [show ((k : Int) + 1) * (P : Int) = (Y : Nat) by rw [hY]; push_cast; rfl]; exact IntWalk.i64_in _ (by omega)
      have e4 : IntKind.i64.wrap ((a : Int) + (Y : Int)) = (Z : Nat) := by rw [show (a : Int) + (Y : Int) = (Z : Nat) by omega]; exact IntWalk.i64_in _ (by omega)
      have HO2 := Lib.hid (show NumsO w.heap.size (wr.setCell ⟨R, k, none⟩ (.int .i64 (Z : Nat))) (.slice (some ⟨R, 0, none⟩) m m) m (hlf (fun j => ((a + (j + 1) * P : Nat) : Int)) (k + 1)) from by
        have h := num_set HO.out k ((a + (k + 1) * P : Nat) : Int)
        rw [HU.out, ← hY, ← hZ] at h
        exact h)
      have HB2' := Lib.hid (HB.out.setCell (p := ⟨R, k, none⟩) (Nat.le_of_lt hRw) (.int .i64 (Z : Nat)))
      have HC2 := Lib.hid (show (wr.setCell ⟨R, k, none⟩ (.int .i64 (Z : Nat))).cell? ⟨w.heap.size, 1, none⟩ = some (.int .i64 (P : Nat)) from
        (((Keeps.refl (fun x => x = R) wr).setCell ⟨R, k, none⟩ (.int .i64 (Z : Nat)) (.inl rfl)).cell (p := ⟨w.heap.size, 1, none⟩) (cell_lt c1) (Nat.ne_of_lt hRw)).trans c1)
      clear hY hZ hYD
      go_wp2_with fail
      go_roundw
      case rel => exact ⟨k + 1, by go_num, by omega, HO2, HB2', HC2⟩
      case measure => simp [intOf]; omega
    · obtain rfl : k = m := by omega
      have hg3 : decide (k < k) = false := decide_eq_false (by omega)
      have HE := Lib.hid (show NumsO w.heap.size wr (.slice (some ⟨R, 0, none⟩) k k) k (fun j => ((a + (j + 1) * P : Nat) : Int)) from by
        unfold NumsO
        rw [← hlf_end]
        exact HO.out)
      clear hlt
      go_wp2_with fail
      go_ret2
      exact ⟨_, rfl, HE.out, HB.out⟩
set_option maxHeartbeats 1000000 in
theorem pends_long (q P a b : Nat) (w : World) (h : okR q P) (hab : a ≤ b) (hb : b ≤ 9223372036854775807) (hm : 4096 < (b - a) / P) :
    Calls Tryd.prog 19 #[.agg #[.int .i64 (q : Nat), .int .i64 (P : Nat)], .int .i64 (a : Nat), .int .i64 (b : Nat)] w (NilP w 3) := by
  have HV := Lib.hid (fun w => pvalid_ok q P w h)
  obtain ⟨h1, h2, h3⟩ := h
  obtain ⟨D, hD⟩ : ∃ D, D = b - a := ⟨_, rfl⟩
  rw [← hD] at hm
  obtain ⟨m, hmd⟩ : ∃ m, m = D / P := ⟨_, rfl⟩
  rw [← hmd] at hm
  have a0 : (0 : Int) ≤ (a : Int) := by omega
  have a1 : (a : Int) ≤ (b : Int) := by omega
  have a2 : (0 : Int) ≤ (b : Int) := by omega
  have e1 : IntKind.i64.wrap ((b : Int) - (a : Int)) = (D : Nat) := by rw [show (b : Int) - (a : Int) = (D : Nat) by omega]; exact IntWalk.i64_in _ (by omega)
  have e2 : ((D : Nat) : Int).tdiv (P : Nat) = (m : Nat) := by rw [hmd]; rfl
  have hmi : (4096 : Int) < (m : Int) := by omega
  have hmb : (m : Int) ≤ 9223372036854775807 := by have := Nat.div_le_self D P; omega
  clear hmd hD
  go_enter Tryd.func19, Tryd.ntmps19
  go_wp2_with fail
  refine (HV.out _).mono ?_
  rintro e w2 ⟨rfl, hb2⟩
  have hc1 : w2.cell? ⟨w.heap.size, 1, none⟩ = some (.int .i64 (P : Nat)) := (hb2.cell (p := ⟨w.heap.size, 1, none⟩) (by simp)).trans (by simp)
  have HB2 := Lib.hid (show Below w.heap.size w w2 from ((Below.refl w.heap.size w).alloc (Nat.le_refl _) _).trans (hb2.mono (by simp)))
  clear hb2
  go_wp2_with fail
  go_ret2
  exact ⟨rfl, HB2.out⟩
/-- The error of a number. -/
def errP (n : Int) : Value := if n = 0 then .nilIface else peno n
theorem pends_any (q p a b : Int) (w : World) (hb : b ≤ 9223372036854775807) :
    Calls Tryd.prog 19 #[.agg #[.int .i64 q, .int .i64 p], .int .i64 a, .int .i64 b] w (EndsPost w a.toNat p.toNat (endM q p a b) (errP (endE q p a b))) := by
  have hnil : ∀ n, n ≠ 0 → endE q p a b = n → Calls Tryd.prog 19 #[.agg #[.int .i64 q, .int .i64 p], .int .i64 a, .int .i64 b] w (NilP w n) → Calls Tryd.prog 19 #[.agg #[.int .i64 q, .int .i64 p], .int .i64 a, .int .i64 b] w (EndsPost w a.toNat p.toNat (endM q p a b) (errP (endE q p a b))) := by
    intro n hn he h
    have hm0 : endM q p a b = 0 := if_neg (by rw [he]; exact hn)
    rw [hm0, he, show errP n = peno n from if_neg hn]
    exact h.mono fun e w' ⟨h1, h2⟩ => ⟨_, h1, World.ownsRow_nil _ _ _ _, h2⟩
  by_cases h1 : a < 0 ∨ b < a
  · exact hnil 1 (by decide) (if_pos h1) (pends_arg q p a b w h1)
  · have a0 : 0 ≤ a := by omega
    have ab : a ≤ b := by omega
    by_cases h2 : okR q p
    · obtain ⟨k1, k2, k3⟩ := h2
      obtain ⟨A, rfl⟩ := Int.eq_ofNat_of_zero_le a0
      obtain ⟨B, rfl⟩ := Int.eq_ofNat_of_zero_le (show 0 ≤ b by omega)
      obtain ⟨Q, rfl⟩ := Int.eq_ofNat_of_zero_le (show 0 ≤ q by omega)
      obtain ⟨P, rfl⟩ := Int.eq_ofNat_of_zero_le (show 0 ≤ p by omega)
      by_cases h3 : 4096 < (B - A) / P
      · exact hnil 3 (by decide) (by unfold endE; rw [if_neg h1, if_neg (by exact fun h => h ⟨k1, k2, k3⟩)]; exact if_pos h3) (pends_long Q P A B w ⟨k1, k2, k3⟩ (by omega) (by omega) h3)
      · have he : endE Q P A B = 0 := by unfold endE; rw [if_neg h1, if_neg (by exact fun h => h ⟨k1, k2, k3⟩)]; exact if_neg h3
        have hm0 : endM Q P A B = (B - A) / P := if_pos he
        rw [hm0, he, show errP 0 = .nilIface from rfl]
        exact pends_ok Q P A B w ⟨k1, k2, k3⟩ (by omega) (by omega) (by omega)
    · exact hnil 2 (by decide) (by unfold endE; rw [if_neg h1]; exact if_pos h2) (pends_range q p a b w a0 ab h2)
theorem endM_le (q p a b : Int) : endM q p a b ≤ 4096 := by
  unfold endM
  by_cases h : endE q p a b = 0
  · rw [if_pos h]
    unfold endE at h
    by_cases h1 : a < 0 ∨ b < a
    · rw [if_pos h1] at h; cases h
    · rw [if_neg h1] at h
      by_cases h2 : ¬ (1 ≤ q ∧ q ≤ p ∧ p ≤ 1048576)
      · rw [if_pos h2] at h; cases h
      · rw [if_neg h2] at h
        by_cases h3 : 4096 < (b.toNat - a.toNat) / p.toNat
        · rw [if_pos h3] at h; cases h
        · omega
  · rw [if_neg h]; omega
theorem ends_row (a P m : Nat) : ∀ j, j < m → ∃ y, (endsL a P m)[j]? = some (.int .i64 y) := fun j hj => ⟨_, by unfold endsL; simp [hj]; rfl⟩
end Go.Proofs.YtknhjbfhkfngeaaDoor
