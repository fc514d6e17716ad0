/- The document's own Ends; no condition but those that each row names. -/
import Derived.Test.YtknhjbfhkfngeaaDoorNApp
import Derived.Deep.CutBlock
import Derived.Deep.DeepCutAuto
namespace Go.Proofs.YtknhjbfhkfngeaaDoor
open Go.RowKit

/-- May a reservation be? -/
def okR (q p : Int) : Prop := 1 ≤ q ∧ q ≤ p ∧ p ≤ 1048576
theorem rvalid_ok (q p : Int) (w : World) (h : okR q p) :
    Calls Tryd.prog 31 #[.agg #[.int .i64 q, .int .i64 p]] w fun e w' => e = .returned (.int .i64 0) ∧ Below w.heap.size w w' := by
  obtain ⟨h1, h2, h3⟩ := h
  go_enter Tryd.func31, Tryd.ntmps31
  go_wp2
  go_ret
  exact ⟨rfl, (Below.refl _ _).alloc (Nat.le_refl _) _⟩
theorem rvalid_no (q p : Int) (w : World) (h : ¬ okR q p) :
    Calls Tryd.prog 31 #[.agg #[.int .i64 q, .int .i64 p]] w fun e w' => e = .returned (.int .i64 2) ∧ Below w.heap.size w w' := by
  by_cases h1 : q < 1
  · go_enter Tryd.func31, Tryd.ntmps31
    go_wp2
    go_ret
    exact ⟨rfl, (Below.refl _ _).alloc (Nat.le_refl _) _⟩
  · by_cases h2 : 1048576 < p
    · go_enter Tryd.func31, Tryd.ntmps31
      go_wp2
      go_ret
      exact ⟨rfl, (Below.refl _ _).alloc (Nat.le_refl _) _⟩
    · have h3 : p < q := by unfold okR at h; omega
      clear h
      go_enter Tryd.func31, Tryd.ntmps31
      go_wp2
      go_ret
      exact ⟨rfl, (Below.refl _ _).alloc (Nat.le_refl _) _⟩
/-- The ends of the first m periods. -/
def endsL (a P m : Nat) : List Value := (List.range m).map fun j => Value.int .i64 ((a + (j + 1) * P : Nat) : Int)
theorem endsL_succ (a P m : Nat) : endsL a P (m + 1) = endsL a P m ++ [.int .i64 ((a + (m + 1) * P : Nat) : Int)] := by simp [endsL, List.range_succ]
/-- The time behind k periods. -/
def posN (a P k : Nat) : Nat := a + k * P
/-- What Ends answers. -/
def EndsPost (w : World) (a P m : Nat) (c : Value) (e : Ending) (w' : World) : Prop := ∃ v, e = .returned (.tuple #[v, c]) ∧ w'.ownsRow w.heap.size 3 1 v m (endsL a P m) ∧ Below w.heap.size w w'
set_option maxHeartbeats 2000000 in
set_option maxRecDepth 100000 in
theorem rends_ok (q P a b : Nat) (w : World) (h : okR q P) (hab : a ≤ b) (hb : b ≤ 9223372036854775807) (hm : (b - a) / P ≤ 4096) :
    Calls Tryd.prog 20 #[.agg #[.int .i64 (q : Nat), .int .i64 (P : Nat)], .int .i64 (a : Nat), .int .i64 (b : Nat)] w (EndsPost w a P ((b - a) / P) (.int .i64 0)) := by
  have HV := Lib.hid (fun w => rvalid_ok q P w h)
  obtain ⟨h1, h2, h3⟩ := h
  obtain ⟨D, hD⟩ : ∃ D, D = b - a := ⟨_, rfl⟩
  rw [← hD] at hm ⊢
  obtain ⟨m, hmd⟩ : ∃ m, m = D / P := ⟨_, rfl⟩
  rw [← hmd] at hm ⊢
  have hdm : m * P ≤ D := by rw [hmd]; exact Nat.div_mul_le_self D P
  have hdl : D < (m + 1) * P := by rw [hmd]; exact Nat.lt_mul_of_div_lt (Nat.lt_succ_self _) (by omega)
  have a0 : (0 : Int) ≤ (a : Int) := by omega
  have a1 : (a : Int) ≤ (b : Int) := by omega
  have a2 : (0 : Int) ≤ (b : Int) := by omega
  have e1 : IntKind.i64.wrap ((b : Int) - (a : Int)) = (D : Nat) := by rw [show (b : Int) - (a : Int) = (D : Nat) by omega]; exact IntWalk.i64_in _ (by omega)
  have e2 : ((D : Nat) : Int).tdiv (P : Nat) = (m : Nat) := by rw [hmd]; rfl
  have hmi : (m : Int) ≤ 4096 := by omega
  have HDM := Lib.hid hdm
  have HDL := Lib.hid hdl
  have HD := Lib.hid hD
  clear hmd hdm hdl hD
  go_enter Tryd.func20, Tryd.ntmps20
  go_wp2_with fail
  refine (HV.out _).mono ?_
  rintro e w2 ⟨rfl, hb2⟩
  have hc1 : w2.cell? ⟨w.heap.size, 1, none⟩ = some (.int .i64 (P : Nat)) := (hb2.cell (p := ⟨w.heap.size, 1, none⟩) (by simp)).trans (by simp)
  have HC1 := Lib.hid (fun W (hb : Below w2.heap.size w2 W) => (show W.cell? ⟨w.heap.size, 1, none⟩ = some (.int .i64 (P : Nat)) from (hb.cell (p := ⟨w.heap.size, 1, none⟩) (by have := hb2.size; simp at this ⊢; omega)).trans hc1))
  have HB2 := Lib.hid (show Below w.heap.size w w2 from ((Below.refl w.heap.size w).alloc (Nat.le_refl _) _).trans (hb2.mono (by simp)))
  clear hb2
  go_wp2_with fail
  have HD0 := Lib.hid (show ((a : Nat) : Int) = (posN a P 0 : Nat) by unfold posN; rw [Nat.zero_mul, Nat.add_zero])
  have HLT := Lib.hid (show ∀ k, k < m → posN a P k + P ≤ b from fun k hk => by
    have h1 := Nat.mul_le_mul_right P (show k + 1 ≤ m from hk)
    have h2 := HDM.out
    have h3 := HD.out
    rw [Nat.add_mul] at h1
    unfold posN
    omega)
  have HLE := Lib.hid (show posN a P m ≤ b from by
    have h2 := HDM.out
    have h3 := HD.out
    unfold posN
    omega)
  have HEN := Lib.hid (show b < posN a P m + P from by
    have h2 := HDL.out
    have h3 := HD.out
    rw [Nat.add_mul] at h2
    unfold posN
    omega)
  have HNX := Lib.hid (show ∀ k, posN a P (k + 1) = posN a P k + P from fun k => by unfold posN; rw [Nat.add_mul]; omega)
  have HES := Lib.hid (show ∀ k, endsL a P (k + 1) = endsL a P k ++ [.int .i64 ((posN a P k + P : Nat) : Int)] from fun k => by rw [← HNX.out k]; exact endsL_succ a P k)
  have hP1 : 1 ≤ P := by omega
  go_loopw [8, 9] (fun lv av wr => ∃ (k : Nat), k ≤ m ∧ av = .int .i64 (posN a P k : Nat) ∧ Hid (wr.ownsRow w2.heap.size 3 1 lv k (endsL a P k)) ∧ Hid (Below w2.heap.size w2 wr)) (fun _ av _ => b + 1 - (intOf av).toNat)
  case atStart => exact ⟨0, Nat.zero_le _, by rw [HD0.out], Lib.hid (World.ownsRow_nil _ _ _ _), Lib.hid (Below.refl _ _)⟩
  case round =>
    obtain ⟨k, hk, rfl, HN, HB⟩ := hrel
    obtain ⟨pd, cd, hdv, _⟩ := own_small HN.out
    subst hdv
    have c1 := HC1.out wr HB.out
    by_cases hkm : k < m
    · have hx := HLT.out k hkm
      have HX := Lib.hid (HNX.out k)
      have HE := Lib.hid (HES.out k)
      generalize posN a P k = X at *
      have e3 : IntKind.i64.wrap ((b : Int) - (X : Int)) = (b : Int) - (X : Int) := IntWalk.i64_in _ (by omega)
      have e4 : IntKind.i64.wrap ((X : Int) + (P : Int)) = ((X + P : Nat) : Int) := by rw [show (X : Int) + (P : Int) = ((X + P : Nat) : Int) by omega]; exact IntWalk.i64_in _ (by omega)
      have hx' : (P : Int) ≤ (b : Int) - (X : Int) := by omega
      obtain ⟨Y, hY⟩ : ∃ Y, Y = X + P := ⟨_, rfl⟩
      rw [← hY] at e4 HX HE
      have hYb : Y ≤ b := by omega
      have hYX : X < Y := by omega
      clear hY
      have HNA := Lib.hid (own_under HN.out ((Below.refl wr.heap.size wr).alloc (Nat.le_refl _) (.cells #[.int .i64 (Y : Nat)] 3)))
      have HBA := Lib.hid (below_alloc HB.out (.cells #[.int .i64 (Y : Nat)] 3))
      go_wp2_with (at_builtin; refine wpList_append_ints rfl _ _ rfl w2.heap.size _ k (endsL a P k) rfl HNA.out _ 1 [.int .i64 (Y : Nat)] rfl (src_int wr (Y : Nat) 3) (by intro u hu; simp at hu; subst hu; rfl) (by omega) HBA.out.size ?_)
      intro p3 c3 w3 hown hgrow hat
      have HN3 := Lib.hid (show w3.ownsRow w2.heap.size 3 1 (.slice p3 (k + 1) c3) (k + 1) (endsL a P (k + 1)) from by
        rw [HE.out]
        exact hown)
      have HB3 := Lib.hid (HBA.out.grown hgrow HBA.out.size (fun g e => (World.ownsRow.lt HNA.out g e).1))
      clear hown hgrow hat
      go_wp2_with fail
      go_roundw
      case rel => exact ⟨k + 1, by omega, by rw [HX.out], HN3, HB3⟩
      case measure => simp [intOf]; omega
    · obtain rfl : k = m := by omega
      have hx := HLE.out
      have hx2 := HEN.out
      generalize posN a P k = X at *
      have e3 : IntKind.i64.wrap ((b : Int) - (X : Int)) = (b : Int) - (X : Int) := IntWalk.i64_in _ (by omega)
      have hx' : decide ((P : Int) ≤ (b : Int) - (X : Int)) = false := decide_eq_false (by omega)
      clear hkm
      go_wp2_with fail
      go_ret2
      exact ⟨_, rfl, own_base2 HN.out HB2.out.size, bnext HB2.out HB.out⟩
/-- No list, and an error's number. -/
def NilPost (w : World) (n : Int) (e : Ending) (w' : World) : Prop := e = .returned (.tuple #[.slice none 0 0, .int .i64 n]) ∧ Below w.heap.size w w'
set_option maxHeartbeats 1000000 in
theorem rends_arg (q p a b : Int) (w : World) (h : a < 0 ∨ b < a) : Calls Tryd.prog 20 #[.agg #[.int .i64 q, .int .i64 p], .int .i64 a, .int .i64 b] w (NilPost w 1) := by
  by_cases h1 : a < 0
  · clear h
    go_enter Tryd.func20, Tryd.ntmps20
    go_wp2_with fail
    go_ret2
    exact ⟨rfl, (Below.refl _ _).alloc (Nat.le_refl _) _⟩
  · have h2 : b < a := by omega
    have h3 : decide (a < 0) = false := decide_eq_false h1
    clear h
    go_enter Tryd.func20, Tryd.ntmps20
    go_wp2_with fail
    go_ret2
    exact ⟨rfl, (Below.refl _ _).alloc (Nat.le_refl _) _⟩
set_option maxHeartbeats 1000000 in
theorem rends_range (q p a b : Int) (w : World) (h0 : 0 ≤ a) (h1 : a ≤ b) (h : ¬ okR q p) : Calls Tryd.prog 20 #[.agg #[.int .i64 q, .int .i64 p], .int .i64 a, .int .i64 b] w (NilPost w 2) := by
  have HV := Lib.hid (fun w => rvalid_no q p w h)
  clear h
  go_enter Tryd.func20, Tryd.ntmps20
  go_wp2_with fail
  refine (HV.out _).mono ?_
  rintro e w2 ⟨rfl, hb2⟩
  have HB2 := Lib.hid (show Below w.heap.size w w2 from ((Below.refl w.heap.size w).alloc (Nat.le_refl _) _).trans (hb2.mono (by simp)))
  clear hb2
  go_wp2_with fail
  go_ret2
  exact ⟨rfl, HB2.out⟩
set_option maxHeartbeats 1000000 in
theorem rends_long (q P a b : Nat) (w : World) (h : okR q P) (hab : a ≤ b) (hb : b ≤ 9223372036854775807) (hm : 4096 < (b - a) / P) :
    Calls Tryd.prog 20 #[.agg #[.int .i64 (q : Nat), .int .i64 (P : Nat)], .int .i64 (a : Nat), .int .i64 (b : Nat)] w (NilPost w 3) := by
  have HV := Lib.hid (fun w => rvalid_ok q P w h)
  obtain ⟨h1, h2, h3⟩ := h
  obtain ⟨D, hD⟩ : ∃ D, D = b - a := ⟨_, rfl⟩
  rw [← hD] at hm
  obtain ⟨m, hmd⟩ : ∃ m, m = D / P := ⟨_, rfl⟩
  rw [← hmd] at hm
  have a0 : (0 : Int) ≤ (a : Int) := by omega
  have a1 : (a : Int) ≤ (b : Int) := by omega
  have a2 : (0 : Int) ≤ (b : Int) := by omega
  have e1 : IntKind.i64.wrap ((b : Int) - (a : Int)) = (D : Nat) := by rw [show (b : Int) - (a : Int) = (D : Nat) by omega]; exact IntWalk.i64_in _ (by omega)
  have e2 : ((D : Nat) : Int).tdiv (P : Nat) = (m : Nat) := by rw [hmd]; rfl
  have hmi : (4096 : Int) < (m : Int) := by omega
  have hmb : (m : Int) ≤ 9223372036854775807 := by have := Nat.div_le_self D P; omega
  clear hmd hD
  go_enter Tryd.func20, Tryd.ntmps20
  go_wp2_with fail
  refine (HV.out _).mono ?_
  rintro e w2 ⟨rfl, hb2⟩
  have hc1 : w2.cell? ⟨w.heap.size, 1, none⟩ = some (.int .i64 (P : Nat)) := (hb2.cell (p := ⟨w.heap.size, 1, none⟩) (by simp)).trans (by simp)
  have HB2 := Lib.hid (show Below w.heap.size w w2 from ((Below.refl w.heap.size w).alloc (Nat.le_refl _) _).trans (hb2.mono (by simp)))
  clear hb2
  go_wp2_with fail
  go_ret2
  exact ⟨rfl, HB2.out⟩
/-- The error's number, and how many ends there are. -/
def endE (q p a b : Int) : Int := if a < 0 ∨ b < a then 1 else if ¬ (1 ≤ q ∧ q ≤ p ∧ p ≤ 1048576) then 2 else if 4096 < (b.toNat - a.toNat) / p.toNat then 3 else 0
def endM (q p a b : Int) : Nat := if endE q p a b = 0 then (b.toNat - a.toNat) / p.toNat else 0
theorem rends_any (q p a b : Int) (w : World) (hb : b ≤ 9223372036854775807) :
    Calls Tryd.prog 20 #[.agg #[.int .i64 q, .int .i64 p], .int .i64 a, .int .i64 b] w (EndsPost w a.toNat p.toNat (endM q p a b) (.int .i64 (endE q p a b))) := by
  have hnil : ∀ n, n ≠ 0 → endE q p a b = n → Calls Tryd.prog 20 #[.agg #[.int .i64 q, .int .i64 p], .int .i64 a, .int .i64 b] w (NilPost w n) → Calls Tryd.prog 20 #[.agg #[.int .i64 q, .int .i64 p], .int .i64 a, .int .i64 b] w (EndsPost w a.toNat p.toNat (endM q p a b) (.int .i64 (endE q p a b))) := by
    intro n hn he h
    have hm0 : endM q p a b = 0 := if_neg (by rw [he]; exact hn)
    rw [hm0, he]
    exact h.mono fun e w' ⟨h1, h2⟩ => ⟨_, h1, World.ownsRow_nil _ _ _ _, h2⟩
  by_cases h1 : a < 0 ∨ b < a
  · exact hnil 1 (by decide) (if_pos h1) (rends_arg q p a b w h1)
  · have a0 : 0 ≤ a := by omega
    have ab : a ≤ b := by omega
    by_cases h2 : okR q p
    · obtain ⟨k1, k2, k3⟩ := h2
      obtain ⟨A, rfl⟩ := Int.eq_ofNat_of_zero_le a0
      obtain ⟨B, rfl⟩ := Int.eq_ofNat_of_zero_le (show 0 ≤ b by omega)
      obtain ⟨Q, rfl⟩ := Int.eq_ofNat_of_zero_le (show 0 ≤ q by omega)
      obtain ⟨P, rfl⟩ := Int.eq_ofNat_of_zero_le (show 0 ≤ p by omega)
      by_cases h3 : 4096 < (B - A) / P
      · exact hnil 3 (by decide) (by unfold endE; rw [if_neg h1, if_neg (by exact fun h => h ⟨k1, k2, k3⟩)]; exact if_pos h3) (rends_long Q P A B w ⟨k1, k2, k3⟩ (by omega) (by omega) h3)
      · have he : endE Q P A B = 0 := by unfold endE; rw [if_neg h1, if_neg (by exact fun h => h ⟨k1, k2, k3⟩)]; exact if_neg h3
        have hm0 : endM Q P A B = (B - A) / P := if_pos he
        rw [hm0, he]
        exact rends_ok Q P A B w ⟨k1, k2, k3⟩ (by omega) (by omega) (by omega)
    · exact hnil 2 (by decide) (by unfold endE; rw [if_neg h1]; exact if_pos h2) (rends_range q p a b w a0 ab h2)
end Go.Proofs.YtknhjbfhkfngeaaDoor
