/- Decimal digits; the document's own Digits at numbers below 2^31; no condition but those that each row names. -/
import Derived.Test.YtpfhebfkhailfaaDoorQMem
import Derived.Lib.AtoiTie
import Derived.Lib.ItoaNum
import Derived.Lib.Bytealg
namespace Go.Proofs.YtpfhebfkhailfaaDoor
open Go.RowKit Tsk

theorem dec_small {n : Nat} (h : n < 10) : Lib.decDigits n = [UInt8.ofNat (48 + n)] := by rw [Lib.decDigits, dif_pos h]
theorem dec_big {n : Nat} (h : ¬ n < 10) : Lib.decDigits n = Lib.decDigits (n / 10) ++ [UInt8.ofNat (48 + n % 10)] := by rw [Lib.decDigits, dif_neg h]
theorem nDigits_le : ∀ (k n : Nat), 1 ≤ k → n < 10 ^ k → Lib.nDigits n ≤ k
  | 0, _, h, _ => by omega
  | k + 1, n, _, h => by
    by_cases hs : n < 10
    · rw [Lib.nDigits_small hs]; omega
    · rw [Lib.nDigits_big hs]
      have hk : 1 ≤ k := by
        rcases Nat.eq_zero_or_pos k with e | e
        · subst e; simp at h; omega
        · exact e
      have := nDigits_le k (n / 10) hk (by rw [Nat.pow_succ] at h; omega)
      omega
theorem dec_len10 (n : Nat) (h : n < 10000000000) : (Lib.decDigits n).length ≤ 10 := by
  rw [Lib.decDigits_length]; exact nDigits_le 10 n (by omega) (by omega)
theorem ba_of_list {s : ByteArray} {l : List UInt8} (h : s.data.toList = l) : s = ⟨l.toArray⟩ := by
  subst h
  cases s
  simp
theorem ret_str {a b : ByteArray} (h : a = b) : Ending.returned (.string a) = .returned (.string b) := by rw [h]
theorem digs_piece : ∀ r : Fin 10, (⟨#[48, 49, 50, 51, 52, 53, 54, 55, 56, 57]⟩ : ByteArray).extract r.val (r.val + 1) = ⟨#[UInt8.ofNat (48 + r.val)]⟩ := by decide +kernel
theorem digs_piece' {r : Nat} (h : r < 10) : (⟨#[48, 49, 50, 51, 52, 53, 54, 55, 56, 57]⟩ : ByteArray).extract r (r + 1) = ⟨#[UInt8.ofNat (48 + r)]⟩ := digs_piece ⟨r, h⟩
theorem cat_last (a : List UInt8) (b : UInt8) (x : ByteArray) (h : x = ⟨#[b]⟩) : (⟨a.toArray⟩ : ByteArray) ++ x = ⟨(a ++ [b]).toArray⟩ := by
  subst h
  refine ba_of_list ?_
  simp [ByteArray.data_append]
set_option maxHeartbeats 1000000 in
set_option maxRecDepth 100000 in
theorem digits_any (f : Nat) : ∀ (n : Nat) (w : World), n < 10 ^ (f + 1) → n ≤ 2147483647 →
    Calls Tryd.prog 44 #[.int .i64 n] w fun e w' => e = .returned (.string ⟨(Lib.decDigits n).toArray⟩) ∧ ∃ k, w' = w.drewN k := by
  induction f with
  | zero =>
    intro n w hn _
    have hn : n < 10 := by simpa using hn
    have HE := Lib.hid (dec_small hn)
    have HP := Lib.hid (digs_piece' hn)
    have h1 : (n : Int) < 10 := by omega
    clear hn
    go_enter Tryd.func44, Tryd.ntmps44
    go_wp2_with fail
    go_ret
    exact ⟨ret_str (by rw [HP.out, HE.out]), 0, rfl⟩
  | succ f ih =>
    intro n w hn hm
    by_cases hs : n < 10
    · have HE := Lib.hid (dec_small hs)
      have HP := Lib.hid (digs_piece' hs)
      have h1 : (n : Int) < 10 := by omega
      clear hs hn ih
      go_enter Tryd.func44, Tryd.ntmps44
      go_wp2_with fail
      go_ret
      exact ⟨ret_str (by rw [HP.out, HE.out]), 0, rfl⟩
    · have HE := Lib.hid (dec_big hs)
      have HP := Lib.hid (digs_piece' (show n % 10 < 10 by omega))
      have HI := Lib.hid (fun w => ih (n / 10) w (by rw [Nat.pow_succ] at hn; omega) (by omega))
      have hl : (Lib.decDigits (n / 10)).length ≤ 10 := dec_len10 _ (by omega)
      clear hn ih
      generalize hq : n / 10 = q at *
      generalize hr : n % 10 = r at *
      have t1 : Int.tdiv (n : Int) 10 = (q : Int) := by subst hq; exact rfl
      have t2 : Int.tmod (n : Int) 10 = (r : Int) := by subst hr; exact rfl
      have t4 : (n : Int) / 10 = (q : Int) := by omega
      have t5 : (n : Int) % 10 = (r : Int) := by omega
      have r9 : (r : Int) ≤ 9 := by omega
      have t3 : IntKind.i64.wrap ((r : Int) + 1) = (r : Int) + 1 := IntWalk.i64_in _ (by omega)
      have r0 : (0 : Int) ≤ (r : Int) := by omega
      have r1 : (0 : Int) ≤ (r : Int) + 1 := by omega
      have r2 : (r : Int) + 1 ≤ 10 := by omega
      have r3 : ((r : Int) + 1).toNat = r + 1 := by omega
      have r4 : (r : Int) ≤ (r : Int) + 1 := by omega
      have h1 : (10 : Int) ≤ (n : Int) := by omega
      have n1 : ¬ 9223372036854775807 < (Lib.decDigits q).length + 1 := by omega
      clear hq hr hs
      go_enter Tryd.func44, Tryd.ntmps44
      go_wp2_with fail
      go_quiet ((go_at_call 44; with_reducible exact Calls.quiet_of (HI.out _)))
      go_wp2_with fail
      go_ret
      exact ⟨ret_str (by rw [cat_last _ _ _ HP.out, HE.out]), _, rfl⟩
/-- The digits of a number from 0 on. -/
def dgL (n : Int) : List UInt8 := Lib.decDigits n.toNat
theorem dgL_len (n : Int) (h : n ≤ 2147483647) : (dgL n).length ≤ 10 := dec_len10 _ (by omega)
theorem digits_below (n : Int) (w : World) (h0 : 0 ≤ n) (hn : n ≤ 2147483647) :
    Calls Tryd.prog 44 #[.int .i64 n] w fun e w' => e = .returned (.string ⟨(dgL n).toArray⟩) ∧ Below w.heap.size w w' := by
  obtain ⟨m, rfl⟩ := Int.eq_ofNat_of_zero_le h0
  refine (digits_any 9 m w (by omega) (by omega)).mono ?_
  rintro e w' ⟨rfl, k, rfl⟩
  exact ⟨rfl, ⟨rfl, rfl, rfl, Nat.le_refl _, fun _ _ => rfl⟩⟩
theorem digits_q (n : Int) (w : World) (h0 : 0 ≤ n) (hn : n ≤ 2147483647) :
    Calls Tryd.prog 44 #[.int .i64 n] w fun e w' => e = .returned (.string ⟨(dgL n).toArray⟩) ∧ ∃ k, w' = w.drewN k := by
  obtain ⟨m, rfl⟩ := Int.eq_ofNat_of_zero_le h0
  exact digits_any 9 m w (by omega) (by omega)
end Go.Proofs.YtpfhebfkhailfaaDoor
