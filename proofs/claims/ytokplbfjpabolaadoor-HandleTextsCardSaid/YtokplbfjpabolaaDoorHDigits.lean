/- The document's own Digits and Text, at numbers up to 65535 and at every handle; no condition but those that each row names. -/
import Derived.Test.YtokplbfjpabolaaDoorHTextW
import Derived.Deep.QuietTactic
import Derived.BigQuiet
import Derived.IntWalk
namespace Go.Proofs.YtokplbfjpabolaaDoor
open Go.RowKit

theorem digs_piece : ∀ r : Fin 10, (⟨#[48, 49, 50, 51, 52, 53, 54, 55, 56, 57]⟩ : ByteArray).extract r.val (r.val + 1) = ⟨#[UInt8.ofNat (48 + r.val)]⟩ := by decide +kernel
theorem digs_piece' {r : Nat} (h : r < 10) : (⟨#[48, 49, 50, 51, 52, 53, 54, 55, 56, 57]⟩ : ByteArray).extract r (r + 1) = ⟨#[UInt8.ofNat (48 + r)]⟩ := digs_piece ⟨r, h⟩
theorem cat_last (a : List UInt8) (b : UInt8) (x : ByteArray) (h : x = ⟨#[b]⟩) : (⟨a.toArray⟩ : ByteArray) ++ x = ⟨(a ++ [b]).toArray⟩ := by
  subst h
  refine ba_of_list ?_
  simp [ByteArray.data_append]

set_option maxHeartbeats 1000000 in
set_option maxRecDepth 100000 in
theorem digits_any (f : Nat) : ∀ (n : Nat) (w : World), n < 10 ^ (f + 1) → n ≤ 1000000 →
    Calls Tryd.prog 38 #[.int .i64 n] w fun e w' => e = .returned (.string ⟨(Lib.decDigits n).toArray⟩) ∧ ∃ k, w' = w.drewN k := by
  induction f with
  | zero =>
    intro n w hn _
    have hn : n < 10 := by simpa using hn
    have HE := Lib.hid (dec_small hn)
    have HP := Lib.hid (digs_piece' hn)
    have h1 : (n : Int) < 10 := by omega
    clear hn
    go_enter Tryd.func38, Tryd.ntmps38
    go_wp2_with fail
    go_ret
    exact ⟨ret_str (by rw [HP.out, HE.out]), 0, rfl⟩
  | succ f ih =>
    intro n w hn hm
    by_cases hs : n < 10
    · have HE := Lib.hid (dec_small hs)
      have HP := Lib.hid (digs_piece' hs)
      have h1 : (n : Int) < 10 := by omega
      clear hs hn ih
      go_enter Tryd.func38, Tryd.ntmps38
      go_wp2_with fail
      go_ret
      exact ⟨ret_str (by rw [HP.out, HE.out]), 0, rfl⟩
    · have HE := Lib.hid (dec_big hs)
      have HP := Lib.hid (digs_piece' (show n % 10 < 10 by omega))
      have HI := Lib.hid (fun w => ih (n / 10) w (by rw [Nat.pow_succ] at hn; omega) (by omega))
      have hl : (Lib.decDigits (n / 10)).length ≤ 7 := by rw [Lib.decDigits_length]; exact nDigits_le 7 _ (by omega) (by omega)
      clear hn ih
      generalize hq : n / 10 = q at *
      generalize hr : n % 10 = r at *
      have t1 : Int.tdiv (n : Int) 10 = (q : Int) := by subst hq; exact rfl
      have t2 : Int.tmod (n : Int) 10 = (r : Int) := by subst hr; exact rfl
      have t4 : (n : Int) / 10 = (q : Int) := by omega
      have t5 : (n : Int) % 10 = (r : Int) := by omega
      have r9 : (r : Int) ≤ 9 := by omega
      have t3 : IntKind.i64.wrap ((r : Int) + 1) = (r : Int) + 1 := IntWalk.i64_in _ (by omega)
      have r0 : (0 : Int) ≤ (r : Int) := by omega
      have r1 : (0 : Int) ≤ (r : Int) + 1 := by omega
      have r2 : (r : Int) + 1 ≤ 10 := by omega
      have r3 : ((r : Int) + 1).toNat = r + 1 := by omega
      have r4 : (r : Int) ≤ (r : Int) + 1 := by omega
      have h1 : (10 : Int) ≤ (n : Int) := by omega
      have n1 : ¬ 9223372036854775807 < (Lib.decDigits q).length + 1 := by omega
      clear hq hr hs
      go_enter Tryd.func38, Tryd.ntmps38
      go_wp2_with fail
      go_quiet ((go_at_call 38; with_reducible exact Calls.quiet_of (HI.out _)))
      go_wp2_with fail
      go_ret
      exact ⟨ret_str (by rw [cat_last _ _ _ HP.out, HE.out]), _, rfl⟩

theorem digits_below (n : Nat) (w : World) (hn : n ≤ 65535) :
    Calls Tryd.prog 38 #[.int .i64 n] w fun e w' => e = .returned (.string ⟨(Lib.decDigits n).toArray⟩) ∧ Below w.heap.size w w' := by
  refine (digits_any 5 n w (by omega) (by omega)).mono ?_
  rintro e w' ⟨rfl, k, rfl⟩
  exact ⟨rfl, ⟨rfl, rfl, rfl, Nat.le_refl _, fun _ _ => rfl⟩⟩

theorem rtext_0 (w : World) : Calls Tryd.prog 26 #[.int .i64 0] w fun e w' => e = .returned (.string ⟨#[45]⟩) ∧ Below w.heap.size w w' := by
  go_enter Tryd.func26, Tryd.ntmps26
  go_wp2_with fail
  go_ret
  exact ⟨rfl, Below.refl _ _⟩
theorem rtext_no (h : Int) (h0 : h ≠ 0) (w : World) (k : ¬ okH h) : Calls Tryd.prog 26 #[.int .i64 h] w fun e w' => e = .returned (.string ⟨#[]⟩) ∧ Below w.heap.size w w' := by
  have hz : (h == 0) = false := by rw [beq_eq_false_iff_ne]; exact h0
  clear h0
  go_enter Tryd.func26, Tryd.ntmps26
  go_wp2_with fail
  refine (rparts_no _ _ k).mono ?_
  rintro e w1 ⟨rfl, rfl⟩
  go_wp2_with fail
  go_ret
  exact ⟨rfl, Below.refl _ _⟩

set_option maxHeartbeats 1000000 in
set_option maxRecDepth 100000 in
theorem rtext_ok (h : Int) (w : World) (k : okH h) : Calls Tryd.prog 26 #[.int .i64 h] w fun e w' => e = .returned (.string ⟨(textL h).toArray⟩) ∧ Below w.heap.size w w' := by
  have hz : (h == 0) = false := by rw [beq_eq_false_iff_ne]; exact okH_ne k
  obtain ⟨p1, p2, p3, p4, p5, p6⟩ := id (show okP (kOf h) (sOf h) (gOf h) from k)
  have l1 := dec_len5 (sOf h).toNat (by omega)
  have l2 := dec_len4 (gOf h).toNat (by omega)
  have HT := Lib.hid (textL_ok k)
  have HS := Lib.hid (fun w => rparts_ok h w k)
  obtain ⟨s, hs⟩ := Int.eq_ofNat_of_zero_le p3
  obtain ⟨g, hgg⟩ := Int.eq_ofNat_of_zero_le (show 0 ≤ gOf h by omega)
  rw [hs, hgg] at HT HS
  rw [hs] at l1 p4
  rw [hgg] at l2 p6
  rw [Int.toNat_natCast] at l1 l2
  simp only [Int.toNat_natCast] at HT
  have n1 : ¬ 9223372036854775807 < 1 + (Lib.decDigits s).length := by omega
  have n2 : ¬ 9223372036854775807 < 1 + (Lib.decDigits s).length + 1 := by omega
  have n3 : ¬ 9223372036854775807 < 1 + (Lib.decDigits s).length + 1 + (Lib.decDigits g).length := by omega
  have w0 : IntKind.i64.wrap 0 = 0 := rfl
  have w1 : IntKind.i64.wrap 1 = 1 := rfl
  have w2 : IntKind.i64.wrap 2 = 2 := rfl
  clear hs hgg p3 p5 k
  generalize kOf h = y at *
  have hy : y = 1 ∨ y = 2 ∨ y = 3 := by omega
  rw [HT.out]
  clear HT
  clear p1 p2
  rcases hy with rfl | rfl | rfl
  all_goals
    go_enter Tryd.func26, Tryd.ntmps26
    go_wp2_with fail
    refine (HS.out _).mono ?_
    rintro e w1 ⟨rfl, rfl⟩
    go_wp2_with fail
    go_region_held3 (fun w' => Below w.heap.size w w')
      (first
        | exact bnext (by assumption) hb
        | exact Below.drew (Below.refl _ _)
        | assumption
        | go_keep)
      (first | (go_at_call 38; refine (digits_below _ _ (by omega)).mono ?_; rintro e w' ⟨rfl, hb⟩))
    go_wp2
    go_ret
    exact ⟨ret_str (cat_list _ _ _ _ rfl), by assumption⟩

theorem rtext_any (h : Int) (w : World) : Calls Tryd.prog 26 #[.int .i64 h] w fun e w' => e = .returned (.string ⟨(textL h).toArray⟩) ∧ Below w.heap.size w w' := by
  by_cases h0 : h = 0
  · subst h0; exact rtext_0 w
  · by_cases k : okH h
    · exact rtext_ok h w k
    · rw [textL_no k h0]; exact rtext_no h h0 w k
end Go.Proofs.YtokplbfjpabolaaDoor
