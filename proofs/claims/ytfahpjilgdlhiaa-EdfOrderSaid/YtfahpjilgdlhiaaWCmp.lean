/- The closure that compares children by their places: cmp.Compare, cmp.Or, comparing; no condition but those that each row names. -/
import Derived.Test.YtfahpjilgdlhiaaWIts
namespace Go.Proofs.Ytfahpjilgdlhiaa
open Go.RowKit Edf

/-- Which of two numbers is less. -/
def cmpI (a b : Int) : Int := if a < b then -1 else if b < a then 1 else 0
theorem cmpI_lt {a b : Int} (h : a < b) : cmpI a b = -1 := if_pos h
theorem cmpI_gt {a b : Int} (h : b < a) : cmpI a b = 1 := by unfold cmpI; rw [if_neg (by omega), if_pos h]
theorem cmpI_eq (a : Int) : cmpI a a = 0 := by unfold cmpI; rw [if_neg (by omega), if_neg (by omega)]
theorem nan_any (x : Int) (w : World) : Calls Try.prog 54 #[.int .i64 x] w fun e w' => e = .returned (.bool false) ∧ w = w' := by
  go_enter Try.func54, Try.ntmps54
  go_wp2
  go_ret
  exact ⟨ret_bool (by simp), rfl⟩
theorem compare_any (a b : Int) (w : World) : Calls Try.prog 48 #[.int .i64 a, .int .i64 b] w fun e w' => e = .returned (.int .i64 (cmpI a b)) ∧ w = w' := by
  have HN := Lib.hid (fun x w => nan_any x w)
  rcases Int.lt_trichotomy a b with h | h | h
  · rw [cmpI_lt h]
    go_enter Try.func48, Try.ntmps48
    go_wp2_with (go_at_call 54; refine (HN.out _ _).mono ?_; rintro e w1 ⟨rfl, rfl⟩)
    go_ret
    exact ⟨rfl, rfl⟩
  · subst h
    rw [cmpI_eq]
    go_enter Try.func48, Try.ntmps48
    go_wp2_with (go_at_call 54; refine (HN.out _ _).mono ?_; rintro e w1 ⟨rfl, rfl⟩)
    go_ret
    exact ⟨rfl, rfl⟩
  · rw [cmpI_gt h]
    go_enter Try.func48, Try.ntmps48
    go_wp2_with (go_at_call 54; refine (HN.out _ _).mono ?_; rintro e w1 ⟨rfl, rfl⟩)
    go_ret
    exact ⟨rfl, rfl⟩
/-- The first of some numbers that is not nought. -/
def firstNZ (f : Nat → Int) : Nat → Int
  | 0 => 0
  | n + 1 => if firstNZ f n = 0 then f n else firstNZ f n
theorem firstNZ_stop {f : Nat → Int} {k : Nat} (h0 : firstNZ f k = 0) (he : f k ≠ 0) : ∀ n, k < n → firstNZ f n = f k
  | n + 1, hn => by
    simp only [firstNZ]
    by_cases hk : k = n
    · subst hk; rw [if_pos h0]
    · rw [firstNZ_stop h0 he n (by omega), if_neg he]
theorem firstNZ_next {f : Nat → Int} {k : Nat} (h0 : firstNZ f k = 0) (h1 : f k = 0) : firstNZ f (k + 1) = 0 := by
  simp only [firstNZ]; rw [if_pos h0, h1]
theorem or_any (w : World) (v : Value) (n : Nat) (f : Nat → Int) (h : Nums w v n f) : Calls Try.prog 47 #[v] w fun e w' => e = .returned (.int .i64 (firstNZ f n)) ∧ w = w' := by
  have HV := Lib.hid h
  obtain ⟨p, cap, rfl, hm, hdrop⟩ := h
  clear hdrop
  go_enter Try.func47, Try.ntmps47
  go_wp2_with fail
  go_loop [8] (fun iv => ∃ (k : Nat), k ≤ n ∧ iv = .int .i64 k ∧ Hid (firstNZ f k = 0)) (fun iv => n - (intOf iv).toNat)
  case atStart => exact ⟨0, Nat.zero_le _, rfl, Lib.hid rfl⟩
  case round =>
    obtain ⟨k, hk, rfl, H0⟩ := hrel
    by_cases hlt : k < n
    · have hlt' : (k : Int) < (n : Int) := by omega
      have k0 : (0 : Int) ≤ (k : Int) := by omega
      obtain ⟨_, _, hsl, _, hcs⟩ := HV.out
      injection hsl with hs1 hs2 hs3
      subst hs1 hs3
      obtain ⟨b, off, rfl, c0⟩ := hcs k hlt
      clear hcs hs2
      by_cases he : f k = 0
      · have HI := Lib.hid (firstNZ_next H0.out he)
        rw [he] at c0
        clear he
        go_wp2_with fail
        go_round
        case rel => exact ⟨k + 1, by omega, by go_num, HI⟩
        case measure => simp [intOf]; omega
      · have HI := Lib.hid (firstNZ_stop H0.out he n hlt)
        generalize f k = z at *
        have he' : (z == 0) = false := by rw [beq_eq_false_iff_ne]; exact he
        have he2 : (z != 0) = true := by rw [bne_iff_ne]; exact he
        clear he
        go_wp2_with fail
        go_ret
        exact ⟨by rw [HI.out]; rfl, rfl⟩
    · have hge : decide (k < n) = false := decide_eq_false hlt
      obtain rfl : k = n := by omega
      clear hlt
      go_wp2_with fail
      go_ret
      exact ⟨by rw [H0.out]; rfl, rfl⟩
/-- The order of children at two places: by End, by Slot, by place. -/
def cmpT (c : Nat → Tri) (a b : Nat) : Int := if cmpI (c a).c (c b).c = 0 then (if cmpI (c a).a (c b).a = 0 then cmpI a b else cmpI (c a).a (c b).a) else cmpI (c a).c (c b).c
theorem cmpT_neg {c : Nat → Tri} {a b : Nat} : cmpT c a b < 0 ↔ Ahead c a b := by
  unfold cmpT cmpI Ahead
  split <;> (try split) <;> (try split) <;> (try split) <;> (try split) <;> (try split) <;> omega
def three (x y z : Int) (i : Nat) : Int := if i = 0 then x else if i = 1 then y else z
theorem first_three (x y z : Int) : firstNZ (three x y z) 3 = if x = 0 then (if y = 0 then z else y) else x := by
  simp only [firstNZ, three]
  by_cases hx : x = 0
  · subst hx
    by_cases hy : y = 0
    · subst hy; simp
    · simp [hy]
  · simp [hx]
/-- The closure's box: the slice of children. -/
def Boxed (w : World) (bx : Nat) (v : Value) : Prop := w.cell? ⟨bx, 0, none⟩ = some v
set_option maxHeartbeats 2000000 in
set_option maxRecDepth 100000 in
theorem closure_any (w : World) (bx : Nat) (v : Value) (n : Nat) (c : Nat → Tri) (hb : Boxed w bx v) (h : Tris w v n c) (a b : Nat) (ha : a < n) (hbn : b < n) :
    Calls Try.prog 46 #[.int .i64 (a : Nat), .int .i64 (b : Nat), .pointer (some ⟨bx, 0, none⟩)] w fun e w' => e = .returned (.int .i64 (cmpT c a b)) ∧ ∃ o, w' = w.drew.alloc o := by
  obtain ⟨p, cap, rfl, hm, hcs⟩ := h
  obtain ⟨b1, o1, rfl, c0, c1, c2⟩ := hcs a ha
  obtain ⟨b2, o2, e2, d0, d1, d2⟩ := hcs b hbn
  cases e2
  clear hcs
  have hbx : w.cell? ⟨bx, 0, none⟩ = some (.slice (some ⟨b1, o1, none⟩) n cap) := hb
  have HC := Lib.hid (fun x y w => compare_any x y w)
  have HT := Lib.hid (show cmpT c a b = firstNZ (three (cmpI (c a).c (c b).c) (cmpI (c a).a (c b).a) (cmpI a b)) 3 by rw [first_three]; rfl)
  have a0 : (0 : Int) ≤ (a : Int) := by omega
  have a1 : (a : Int) < (n : Int) := by omega
  have b0 : (0 : Int) ≤ (b : Int) := by omega
  have b1' : (b : Int) < (n : Int) := by omega
  clear hb
  generalize cmpT c a b = R at *
  generalize (c a).a = xa at *
  generalize (c a).b = xb at *
  generalize (c a).c = xc at *
  generalize (c b).a = ya at *
  generalize (c b).b = yb at *
  generalize (c b).c = yc at *
  go_enter Try.func46, Try.ntmps46
  go_wp2_with fail
  go_still_tail 25, (by kernel_rfl)
  still_call ((HC.out _ _ _).mono fun _ _ h => ⟨h.1, h.2.symm⟩)
  repeat still_step
  still_call ((HC.out _ _ _).mono fun _ _ h => ⟨h.1, h.2.symm⟩)
  repeat still_step
  still_call ((HC.out _ _ _).mono fun _ _ h => ⟨h.1, h.2.symm⟩)
  repeat still_step
  refine wpStill_nil ?_
  change wpList _ _ _ _ _ w.drew
  go_wp2_with fail
  refine (or_any _ _ 3 (three (cmpI xc yc) (cmpI xa ya) (cmpI (a : Nat) (b : Nat))) ?hn).mono ?_
  case hn =>
    have hh := has_new w.drew (.cells #[.int .i64 (cmpI xc yc), .int .i64 (cmpI xa ya), .int .i64 (cmpI (a : Nat) (b : Nat))] 3) _ rfl
    refine ⟨_, _, rfl, by omega, fun j hj => ⟨w.heap.size, 0, rfl, ?_⟩⟩
    have hcell := has_cell hh (0 + j)
    rcases (show j = 0 ∨ j = 1 ∨ j = 2 by omega) with e | e | e <;> subst e <;> exact hcell
  rintro e w1 ⟨rfl, rfl⟩
  go_wp2_with fail
  go_ret
  exact ⟨by rw [HT.out]; rfl, _, rfl⟩
end Go.Proofs.Ytfahpjilgdlhiaa
