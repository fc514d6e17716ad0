/- The document's own text of units (package titheref01: Digits of a digit, Text): it is the program's, byte by byte. -/
import Derived.Test.YtlhgopdlpjmbhaaDoorText
import Derived.Test.YtlhgopdlpjmbhaaDoorDig
namespace Go.Proofs.YtlhgopdlpjmbhaaDoor
open Go.RowKit

theorem ret_str {a b : ByteArray} (h : a = b) : Ending.returned (.string a) = .returned (.string b) := by rw [h]
theorem ret_stri {a b : ByteArray} {n : Int} (h : a = b) : Ending.returned (.tuple #[.string a, .int .i64 n]) = .returned (.tuple #[.string b, .int .i64 n]) := by rw [h]
theorem digit_str : ∀ n : Fin 10, (⟨#[48, 49, 50, 51, 52, 53, 54, 55, 56, 57]⟩ : ByteArray).extract n (n + 1) ++ ⟨#[]⟩ = ⟨#[dgB n]⟩ := by decide +kernel
theorem ba_snoc (xs : List UInt8) (b : UInt8) : (⟨xs.toArray⟩ : ByteArray) ++ ⟨#[b]⟩ = ⟨(xs ++ [b]).toArray⟩ := by
  apply ByteArray.ext
  rw [ByteArray.data_append]
  simp

set_option maxHeartbeats 1000000 in
theorem rdigits_any (n : Nat) (w : World) (h : n ≤ 9) :
    Calls Tryd.prog 33 #[.int .i64 n] w fun e w' => e = .returned (.string ⟨#[dgB n]⟩) ∧ w = w' := by
  go_enter Tryd.func33, Tryd.ntmps33
  go_wp2
  refine wp_loop_rounds 1 ?_
  rw [rounds_succ]
  go_wp2
  go_ret
  exact ⟨ret_str (digit_str ⟨n, by omega⟩), rfl⟩

theorem rtext_no (n : Int) (w : World) (h : ¬ (0 ≤ n ∧ n ≤ 1048576)) :
    Calls Tryd.prog 24 #[.int .i64 n] w fun e w' => e = .returned (.tuple #[.string ⟨#[]⟩, .int .i64 1]) ∧ w = w' := by
  by_cases h1 : n < 0
  · go_enter Tryd.func24, Tryd.ntmps24
    go_wp2
    go_ret2
    exact ⟨rfl, rfl⟩
  · have h2 : 1048576 < n := by omega
    clear h
    go_enter Tryd.func24, Tryd.ntmps24
    go_wp2
    go_ret2
    exact ⟨rfl, rfl⟩

set_option maxHeartbeats 1000000 in
set_option maxRecDepth 100000 in
theorem rtext_ok (u : Nat) (w : World) (hu : u ≤ 1048576) :
    Calls Tryd.prog 24 #[.int .i64 u] w fun e w' => e = .returned (.tuple #[.string ⟨(decL u).toArray⟩, .int .i64 0]) ∧ w = w' := by
  have hq : u / 1048576 ≤ 9 := by omega
  have hu1 : (u : Int) ≤ 1048576 := by omega
  have HQ := fun w => rdigits_any (u / 1048576) w hq
  rw [show ((u / 1048576 : Nat) : Int) = (u : Int) / 1048576 by omega] at HQ
  have JQ := Lib.hid HQ
  clear HQ
  by_cases h0 : u % 1048576 = 0
  · have hres : decL u = [dgB (u / 1048576)] := by unfold decL; rw [if_pos h0]
    rw [hres]
    have h1 : ((u : Int) % 1048576 == 0) = true := by simpa using (by omega : (u : Int) % 1048576 = 0)
    have h1' : (u : Int) % 1048576 = 0 := by omega
    clear h0 hres
    go_enter Tryd.func24, Tryd.ntmps24
    go_wp2_with (go_at_call 33; refine (JQ.out _).mono ?_; rintro e w1 ⟨rfl, rfl⟩)
    go_ret2
    exact ⟨rfl, rfl⟩
  · have h0' : (0 : Int) < (u : Int) % 1048576 := by omega
    have h1 : ((u : Int) % 1048576 == 0) = false := by simpa using (by omega : ¬ (u : Int) % 1048576 = 0)
    have hpos : u % 1048576 < 1048576 := Nat.mod_lt _ (by omega)
    have HR : Hid (decL u = [dgB (u / 1048576)] ++ [46] ++ tailD 20 (u % 1048576)) := by unfold Hid decL; rw [if_neg h0]; rfl
    clear h0
    go_enter Tryd.func24, Tryd.ntmps24
    go_wp2_with (go_at_call 33; refine (JQ.out _).mono ?_; rintro e w1 ⟨rfl, rfl⟩)
    go_loopg [4, 5] 20 (fun kx v r wr => ∃ (rest : Nat) (xs : List UInt8), v = .string ⟨xs.toArray⟩ ∧ r = .int .i64 rest ∧ rest < 1048576 ∧ xs.length + kx ≤ 22 ∧ Hid (Dv kx rest) ∧ Hid (decL u = xs ++ tailD kx rest) ∧ w = wr)
    case atStart => exact ⟨u % 1048576, [dgB (u / 1048576)] ++ [46], by rw [← ba_snoc], rfl, hpos, by simp, Dv_start _, HR, rfl⟩
    case round =>
      obtain ⟨rest, xs, rfl, rfl, hr, hlen, HD, HE, rfl⟩ := hrel
      by_cases hz : rest = 0
      · subst hz
        go_wp2
        go_ret2
        have hE := HE.out
        rw [tailD_zero, List.append_nil] at hE
        exact ⟨ret_stri (by rw [hE]), rfl⟩
      · obtain ⟨k, rfl⟩ : ∃ k, gk = k + 1 := by
          cases gk with
          | zero => exact absurd (Dv_zero HD.out hr) hz
          | succ k => exact ⟨k, rfl⟩
        have hpos' : (0 : Int) < rest := by omega
        have hd9 := dg_bd rest hr
        have HG := fun w => rdigits_any (rest * 10 / 1048576) w hd9
        rw [show ((rest * 10 / 1048576 : Nat) : Int) = (rest : Int) * 10 / 1048576 by omega] at HG
        have JG := Lib.hid HG
        clear HG
        go_wp2_with (go_at_call 33; refine (JG.out _).mono ?_; rintro e w1 ⟨rfl, rfl⟩)
        have HE' : Hid (decL u = (xs ++ [dgB (rest * 10 / 1048576)]) ++ tailD k (rest * 10 % 1048576)) := by
          unfold Hid; rw [HE.out, tailD_pos k rest (by omega), List.append_assoc]; rfl
        go_roundg k
        case measure => omega
        case rel => exact ⟨rest * 10 % 1048576, xs ++ [dgB (rest * 10 / 1048576)], by rw [← ba_snoc], by go_num, md_bd rest, by simp; omega, Dv_step HD.out, HE', rfl⟩
end Go.Proofs.YtlhgopdlpjmbhaaDoor
