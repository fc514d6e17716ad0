/- The document's own Digits and Text, at every number and every handle; Signed at every int; no condition but those that each row names. -/
import Derived.Test.YtlnamkplbikcjaaGreatDoorYTextW
import Derived.Deep.QuietTactic
import Derived.BigQuiet
import Derived.IntWalk
namespace Go.Proofs.YtlnamkplbikcjaaGreatDoor
open Go.RowKit

theorem digs_piece : ∀ r : Fin 10, (⟨#[48, 49, 50, 51, 52, 53, 54, 55, 56, 57]⟩ : ByteArray).extract r.val (r.val + 1) = ⟨#[UInt8.ofNat (48 + r.val)]⟩ := by decide +kernel
theorem digs_piece' {r : Nat} (h : r < 10) : (⟨#[48, 49, 50, 51, 52, 53, 54, 55, 56, 57]⟩ : ByteArray).extract r (r + 1) = ⟨#[UInt8.ofNat (48 + r)]⟩ := digs_piece ⟨r, h⟩
theorem cat_last (a : List UInt8) (b : UInt8) (x : ByteArray) (h : x = ⟨#[b]⟩) : (⟨a.toArray⟩ : ByteArray) ++ x = ⟨(a ++ [b]).toArray⟩ := by
  subst h
  refine ba_of_list ?_
  simp [ByteArray.data_append]

set_option maxHeartbeats 1000000 in
set_option maxRecDepth 100000 in
theorem digits_any (f : Nat) : ∀ (n : Nat) (w : World), n < 10 ^ (f + 1) → n ≤ 9223372036854775807 →
    Calls Tryz.prog 60 #[.int .i64 n] w fun e w' => e = .returned (.string ⟨(Lib.decDigits n).toArray⟩) ∧ ∃ k, w' = w.drewN k := by
  induction f with
  | zero =>
    intro n w hn _
    have hn : n < 10 := by simpa using hn
    have HE := Lib.hid (dec_small hn)
    have HP := Lib.hid (digs_piece' hn)
    have h1 : (n : Int) < 10 := by omega
    clear hn
    go_enter Tryz.func60, Tryz.ntmps60
    go_wp2_with fail
    go_ret
    exact ⟨ret_str (by rw [HP.out, HE.out]), 0, rfl⟩
  | succ f ih =>
    intro n w hn hm
    by_cases hs : n < 10
    · have HE := Lib.hid (dec_small hs)
      have HP := Lib.hid (digs_piece' hs)
      have h1 : (n : Int) < 10 := by omega
      clear hs hn ih
      go_enter Tryz.func60, Tryz.ntmps60
      go_wp2_with fail
      go_ret
      exact ⟨ret_str (by rw [HP.out, HE.out]), 0, rfl⟩
    · have HE := Lib.hid (dec_big hs)
      have HP := Lib.hid (digs_piece' (show n % 10 < 10 by omega))
      have HI := Lib.hid (fun w => ih (n / 10) w (by rw [Nat.pow_succ] at hn; omega) (by omega))
      have hl : (Lib.decDigits (n / 10)).length ≤ 19 := dec_len20 _ (by omega)
      clear hn ih
      generalize hq : n / 10 = q at *
      generalize hr : n % 10 = r at *
      have t1 : Int.tdiv (n : Int) 10 = (q : Int) := by subst hq; exact rfl
      have t2 : Int.tmod (n : Int) 10 = (r : Int) := by subst hr; exact rfl
      have t4 : (n : Int) / 10 = (q : Int) := by omega
      have t5 : (n : Int) % 10 = (r : Int) := by omega
      have r9 : (r : Int) ≤ 9 := by omega
      have t3 : IntKind.i64.wrap ((r : Int) + 1) = (r : Int) + 1 := IntWalk.i64_in _ (by omega)
      have r0 : (0 : Int) ≤ (r : Int) := by omega
      have r1 : (0 : Int) ≤ (r : Int) + 1 := by omega
      have r2 : (r : Int) + 1 ≤ 10 := by omega
      have r3 : ((r : Int) + 1).toNat = r + 1 := by omega
      have r4 : (r : Int) ≤ (r : Int) + 1 := by omega
      have h1 : (10 : Int) ≤ (n : Int) := by omega
      have n1 : ¬ 9223372036854775807 < (Lib.decDigits q).length + 1 := by omega
      clear hq hr hs
      go_enter Tryz.func60, Tryz.ntmps60
      go_wp2_with fail
      go_quiet ((go_at_call 60; with_reducible exact Calls.quiet_of (HI.out _)))
      go_wp2_with fail
      go_ret
      exact ⟨ret_str (by rw [cat_last _ _ _ HP.out, HE.out]), _, rfl⟩

/-- .. as it was: no memory is made. -/
theorem digits_q (n : Nat) (w : World) (hn : n ≤ 9223372036854775807) :
    Calls Tryz.prog 60 #[.int .i64 n] w fun e w' => e = .returned (.string ⟨(Lib.decDigits n).toArray⟩) ∧ ∃ k, w' = w.drewN k := digits_any 18 n w (by omega) hn
theorem digits_below (n : Nat) (w : World) (hn : n ≤ 9223372036854775807) :
    Calls Tryz.prog 60 #[.int .i64 n] w fun e w' => e = .returned (.string ⟨(Lib.decDigits n).toArray⟩) ∧ Below w.heap.size w w' := by
  refine (digits_any 18 n w (by omega) hn).mono ?_
  rintro e w' ⟨rfl, k, rfl⟩
  exact ⟨rfl, ⟨rfl, rfl, rfl, Nat.le_refl _, fun _ _ => rfl⟩⟩

theorem rtext_0 (w : World) : Calls Tryz.prog 61 #[.int .i64 0] w fun e w' => e = .returned (.string ⟨#[45]⟩) ∧ Below w.heap.size w w' := by
  go_enter Tryz.func61, Tryz.ntmps61
  go_wp2_with fail
  go_ret
  exact ⟨rfl, Below.refl _ _⟩
theorem rtext_no (h : Int) (h0 : h ≠ 0) (w : World) (k : ¬ okH h) : Calls Tryz.prog 61 #[.int .i64 h] w fun e w' => e = .returned (.string ⟨#[]⟩) ∧ Below w.heap.size w w' := by
  have hz : (h == 0) = false := by rw [beq_eq_false_iff_ne]; exact h0
  clear h0
  go_enter Tryz.func61, Tryz.ntmps61
  go_wp2_with fail
  refine (rparts_no _ _ k).mono ?_
  rintro e w1 ⟨rfl, rfl⟩
  go_wp2_with fail
  go_ret
  exact ⟨rfl, Below.refl _ _⟩

set_option maxHeartbeats 1000000 in
set_option maxRecDepth 100000 in
theorem rtext_ok (h : Int) (w : World) (k : okH h) : Calls Tryz.prog 61 #[.int .i64 h] w fun e w' => e = .returned (.string ⟨(textL h).toArray⟩) ∧ Below w.heap.size w w' := by
  have hz : (h == 0) = false := by rw [beq_eq_false_iff_ne]; exact okH_ne k
  obtain ⟨p1, p2, p3, p4, p5, p6⟩ := id (show okP (kOf h) (sOf h) (gOf h) from k)
  have l1 := dec_len5 (sOf h).toNat (by omega)
  have l2 := dec_len4 (gOf h).toNat (by omega)
  have HT := Lib.hid (textL_ok k)
  have HS := Lib.hid (fun w => rparts_ok h w k)
  obtain ⟨s, hs⟩ := Int.eq_ofNat_of_zero_le p3
  obtain ⟨g, hgg⟩ := Int.eq_ofNat_of_zero_le (show 0 ≤ gOf h by omega)
  rw [hs, hgg] at HT HS
  rw [hs] at l1 p4
  rw [hgg] at l2 p6
  rw [Int.toNat_natCast] at l1 l2
  simp only [Int.toNat_natCast] at HT
  have n1 : ¬ 9223372036854775807 < 1 + (Lib.decDigits s).length := by omega
  have n2 : ¬ 9223372036854775807 < 1 + (Lib.decDigits s).length + 1 := by omega
  have n3 : ¬ 9223372036854775807 < 1 + (Lib.decDigits s).length + 1 + (Lib.decDigits g).length := by omega
  have w0 : IntKind.i64.wrap 0 = 0 := rfl
  have w1 : IntKind.i64.wrap 1 = 1 := rfl
  have w2 : IntKind.i64.wrap 2 = 2 := rfl
  clear hs hgg p3 p5 k
  generalize kOf h = y at *
  have hy : y = 1 ∨ y = 2 ∨ y = 3 := by omega
  rw [HT.out]
  clear HT
  clear p1 p2
  rcases hy with rfl | rfl | rfl
  all_goals
    go_enter Tryz.func61, Tryz.ntmps61
    go_wp2_with fail
    refine (HS.out _).mono ?_
    rintro e w1 ⟨rfl, rfl⟩
    go_wp2_with fail
    go_region_held3 (fun w' => Below w.heap.size w w')
      (first
        | exact bnext (by assumption) hb
        | exact Below.drew (Below.refl _ _)
        | assumption
        | go_keep)
      (first | (go_at_call 60; refine (digits_below _ _ (by omega)).mono ?_; rintro e w' ⟨rfl, hb⟩))
    go_wp2
    go_ret
    exact ⟨ret_str (cat_list _ _ _ _ rfl), by assumption⟩

theorem rtext_any (h : Int) (w : World) : Calls Tryz.prog 61 #[.int .i64 h] w fun e w' => e = .returned (.string ⟨(textL h).toArray⟩) ∧ Below w.heap.size w w' := by
  by_cases h0 : h = 0
  · subst h0; exact rtext_0 w
  · by_cases k : okH h
    · exact rtext_ok h w k
    · rw [textL_no k h0]; exact rtext_no h h0 w k
/-- Signed at every int. -/
theorem signed_pos (n : Int) (h : 0 ≤ n) (hi : I64 n) (w : World) : Calls Tryz.prog 43 #[.int .i64 n] w fun e w' => e = .returned (.string ⟨(Lib.itoa n).toArray⟩) ∧ Below w.heap.size w w' := by
  have HT := Lib.hid (show Lib.itoa n = Lib.decDigits n.toNat by unfold Lib.itoa; rw [if_neg (by omega)])
  have HD := digits_below n.toNat w (by unfold I64 at hi; omega)
  rw [show ((n.toNat : Nat) : Int) = n by omega] at HD
  have HD := Lib.hid HD
  have hz : ¬ n < 0 := by omega
  go_enter Tryz.func43, Tryz.ntmps43
  go_wp2_with fail
  refine HD.out.mono ?_
  rintro e w1 ⟨rfl, hb⟩
  go_wp2_with fail
  go_ret
  exact ⟨by rw [HT.out]; rfl, hb⟩
theorem itoa_neg (N : Nat) (h : 0 < N) : Lib.itoa (-(N : Int)) = 45 :: Lib.decDigits N := by
  unfold Lib.itoa
  rw [if_pos (by omega), Int.natAbs_neg, Int.natAbs_natCast]
theorem cat3 (a b : List UInt8) : (⟨#[45]⟩ : ByteArray) ++ ⟨a.toArray⟩ ++ ⟨b.toArray⟩ = ⟨(45 :: (a ++ b)).toArray⟩ := by
  refine ba_of_list ?_
  simp [ByteArray.data_append]
theorem cat1 (a : List UInt8) : (⟨#[45]⟩ : ByteArray) ++ ⟨a.toArray⟩ = ⟨(45 :: a).toArray⟩ := by
  refine ba_of_list ?_
  simp [ByteArray.data_append]
theorem signed_small (N : Nat) (h0 : 0 < N) (h : N < 10) (w : World) : Calls Tryz.prog 43 #[.int .i64 (-(N : Int))] w fun e w' => e = .returned (.string ⟨(Lib.itoa (-(N : Int))).toArray⟩) ∧ Below w.heap.size w w' := by
  have HT := Lib.hid (itoa_neg N h0)
  have HD := Lib.hid (digits_below N w (by omega))
  have hl := dec_len20 N (by omega)
  have n1 : ¬ 9223372036854775807 < 1 + (Lib.decDigits N).length := by omega
  have h1 : ¬ (0 : Int) ≤ -(N : Int) := by omega
  have h2 : (-10 : Int) < -(N : Int) := by omega
  have h3 : IntKind.i64.wrap (- -(N : Int)) = (N : Int) := by rw [Int.neg_neg]; exact IntWalk.i64_in _ (by omega)
  clear hl h0 h
  go_enter Tryz.func43, Tryz.ntmps43
  go_wp2_with fail
  refine HD.out.mono ?_
  rintro e w1 ⟨rfl, hb⟩
  go_wp2_with fail
  go_ret
  exact ⟨ret_str (by rw [HT.out, cat1]), hb⟩
theorem signed_big (N : Nat) (h : 10 ≤ N) (hN : N ≤ 9223372036854775808) (w : World) : Calls Tryz.prog 43 #[.int .i64 (-(N : Int))] w fun e w' => e = .returned (.string ⟨(Lib.itoa (-(N : Int))).toArray⟩) ∧ Below w.heap.size w w' := by
  have HT := Lib.hid (show Lib.itoa (-(N : Int)) = 45 :: (Lib.decDigits (N / 10) ++ Lib.decDigits (N % 10)) by rw [itoa_neg N (by omega), dec_big (show ¬ N < 10 by omega), dec_small (show N % 10 < 10 by omega)])
  have HD := Lib.hid (fun w => digits_below (N / 10) w (by omega))
  have HR := Lib.hid (fun w => digits_below (N % 10) w (by omega))
  have hl := dec_len20 (N / 10) (by omega)
  have hl2 := dec_len20 (N % 10) (by omega)
  have n1 : ¬ 9223372036854775807 < 1 + (Lib.decDigits (N / 10)).length := by omega
  have n2 : ¬ 9223372036854775807 < 1 + (Lib.decDigits (N / 10)).length + (Lib.decDigits (N % 10)).length := by omega
  have h1 : ¬ (0 : Int) ≤ -(N : Int) := by omega
  have h2 : ¬ (-10 : Int) < -(N : Int) := by omega
  have t1 : Int.tdiv (-(N : Int)) 10 = -((N / 10 : Nat) : Int) := by rw [Int.neg_tdiv]; rfl
  have t2 : Int.tmod (-(N : Int)) 10 = -((N % 10 : Nat) : Int) := by rw [Int.neg_tmod]; rfl
  have a1 : ((N / 10 : Nat) : Int) ≤ 922337203685477580 := by omega
  have a2 : ((N % 10 : Nat) : Int) ≤ 9 := by omega
  have a3 : (0 : Int) ≤ ((N / 10 : Nat) : Int) := by omega
  have a4 : (0 : Int) ≤ ((N % 10 : Nat) : Int) := by omega
  clear hl hl2
  generalize hA : N / 10 = A at *
  generalize hB : N % 10 = B at *
  have h3 : IntKind.i64.wrap (- -(A : Int)) = (A : Int) := by rw [Int.neg_neg]; exact IntWalk.i64_in _ (by omega)
  have h4 : IntKind.i64.wrap (- -(B : Int)) = (B : Int) := by rw [Int.neg_neg]; exact IntWalk.i64_in _ (by omega)
  clear hA hB h
  go_enter Tryz.func43, Tryz.ntmps43
  go_wp2_with fail
  refine (HD.out _).mono ?_
  rintro e w1 ⟨rfl, hb⟩
  go_wp2_with fail
  refine (HR.out _).mono ?_
  rintro e w2 ⟨rfl, hb2⟩
  go_wp2_with fail
  go_ret
  exact ⟨ret_str (by rw [HT.out, cat3]), bnext hb hb2⟩
theorem signed_any (n : Int) (hi : I64 n) (w : World) : Calls Tryz.prog 43 #[.int .i64 n] w fun e w' => e = .returned (.string ⟨(Lib.itoa n).toArray⟩) ∧ Below w.heap.size w w' := by
  by_cases h : 0 ≤ n
  · exact signed_pos n h hi w
  · obtain ⟨N, hN⟩ : ∃ N : Nat, n = -(N : Int) := ⟨n.natAbs, by omega⟩
    subst hN
    unfold I64 at hi
    by_cases h10 : N < 10
    · exact signed_small N (by omega) h10 w
    · exact signed_big N (by omega) (by omega) w
end Go.Proofs.YtlnamkplbikcjaaGreatDoor
