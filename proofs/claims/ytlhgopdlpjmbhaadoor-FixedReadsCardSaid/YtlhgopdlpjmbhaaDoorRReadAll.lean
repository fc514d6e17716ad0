/- The document's own reading (package titheref01: Read), at every text that was handed in: what rreadV says of its bytes. -/
import Derived.Test.YtlhgopdlpjmbhaaDoorRRead
namespace Go.Proofs.YtlhgopdlpjmbhaaDoor
open Go.RowKit

theorem len_list (s : ByteArray) : s.toList.length = s.size := by rw [ByteArray.toList_eq]; simp
theorem take_list (s : ByteArray) : (s.extract 0 2).toList = s.toList.take 2 := by
  rw [ByteArray.toList_eq, ByteArray.toList_eq]
  simp
theorem last_list (s : ByteArray) (h : s.size - 1 < s.size) : s.toList.getLast? = some s[s.size - 1] := by
  rw [List.getLast?_eq_getElem?, len_list, ByteArray.toList_eq, Array.getElem?_toList]
  exact Array.getElem?_eq_getElem (by simpa using h)

theorem rreadV_err {l : List UInt8} (h1 : l ≠ [49]) (h0 : l ≠ [48]) (h : l.length < 3 ∨ 22 < l.length ∨ l.take 2 ≠ [48, 46] ∨ l.getLast? = some 48) : rreadV l = none := by
  unfold rreadV
  rw [if_neg h1, if_neg h0, if_pos h]
theorem rreadV_core {l : List UInt8} (h1 : l ≠ [49]) (h0 : l ≠ [48]) (h : ¬ (l.length < 3 ∨ 22 < l.length ∨ l.take 2 ≠ [48, 46] ∨ l.getLast? = some 48)) : rreadV l = core (l.drop 2) := by
  unfold rreadV
  rw [if_neg h1, if_neg h0, if_neg h]
theorem beq_no {a b : List UInt8} (h : a ≠ b) : (a == b) = false := by simpa using h

set_option maxHeartbeats 1000000 in
set_option maxRecDepth 100000 in
theorem rread_any (s : ByteArray) (w : World) (hm : s.size ≤ 9223372036854775807) :
    Calls Tryd.prog 26 #[.string s] w fun e w' => e = resV (rreadV s.toList) ∧ Below w.heap.size w w' := by
  by_cases h1 : s.toList = [49]
  · have e : resV (rreadV s.toList) = .returned (.tuple #[.int .i64 1048576, .int .i64 0]) := by rw [h1]; rfl
    have t : (s.toList == [49]) = true := by rw [h1]; rfl
    rw [e]
    clear e h1
    go_enter Tryd.func26, Tryd.ntmps26
    go_wp2
    go_ret2
    exact ⟨rfl, Below.refl _ _⟩
  by_cases h0 : s.toList = [48]
  · have e : resV (rreadV s.toList) = .returned (.tuple #[.int .i64 0, .int .i64 0]) := by rw [h0]; rfl
    have t1 : (s.toList == [49]) = false := beq_no h1
    have t : (s.toList == [48]) = true := by rw [h0]; rfl
    rw [e]
    clear e h1 h0
    go_enter Tryd.func26, Tryd.ntmps26
    go_wp2
    go_ret2
    exact ⟨rfl, Below.refl _ _⟩
  have t1 : (s.toList == [49]) = false := beq_no h1
  have t0 : (s.toList == [48]) = false := beq_no h0
  have hlen := len_list s
  by_cases h3 : s.size < 3
  · have e : resV (rreadV s.toList) = .returned (.tuple #[.int .i64 0, .int .i64 4]) := by rw [rreadV_err h1 h0 (.inl (by omega))]; rfl
    rw [e]
    clear e h1 h0 hlen
    go_enter Tryd.func26, Tryd.ntmps26
    go_wp2
    go_ret2
    exact ⟨rfl, Below.refl _ _⟩
  by_cases h22 : 22 < s.size
  · have e : resV (rreadV s.toList) = .returned (.tuple #[.int .i64 0, .int .i64 4]) := by rw [rreadV_err h1 h0 (.inr (.inl (by omega)))]; rfl
    rw [e]
    clear e h1 h0 hlen
    go_enter Tryd.func26, Tryd.ntmps26
    go_wp2
    go_ret2
    exact ⟨rfl, Below.refl _ _⟩
  have h3' : 3 ≤ s.size := by omega
  have h22' : s.size ≤ 22 := by omega
  have htk := take_list s
  by_cases h2 : (s.extract 0 2).toList = [48, 46]
  · have hlt : s.size - 1 < s.size := by omega
    have hlast := last_list s hlt
    by_cases hl : (↑s[s.size - 1].toNat == (48 : Int)) = true
    · have hb : s[s.size - 1] = 48 := by
        have := of_decide_eq_true (by simpa using hl : decide ((s[s.size - 1].toNat : Int) = 48) = true)
        rw [← UInt8.toNat_inj]
        have e48 : (48 : UInt8).toNat = 48 := rfl
        omega
      have e : resV (rreadV s.toList) = .returned (.tuple #[.int .i64 0, .int .i64 4]) := by rw [rreadV_err h1 h0 (.inr (.inr (.inr (by rw [hlast, hb]))))]; rfl
      rw [e]
      clear e h1 h0 hlen hb hlast htk h3 h22
      go_enter Tryd.func26, Tryd.ntmps26
      go_wp2
      go_ret2
      exact ⟨rfl, Below.refl _ _⟩
    · have hl' : (↑s[s.size - 1].toNat == (48 : Int)) = false := by simpa using hl
      have hne : ¬ s.toList.getLast? = some 48 := by
        rw [hlast]
        intro h
        rw [Option.some.inj h] at hl
        exact hl rfl
      have e : rreadV s.toList = core (s.toList.drop 2) := rreadV_core h1 h0 (by
        intro h
        rcases h with h | h | h | h
        · omega
        · omega
        · exact h (htk ▸ h2)
        · exact hne h)
      have hs : s.toList = 48 :: 46 :: s.toList.drop 2 := by
        have := List.take_append_drop 2 s.toList
        rw [← htk, h2] at this
        exact this.symm
      rw [e]
      exact rread_core s w _ h3' h22' hs hl'
  · have e : resV (rreadV s.toList) = .returned (.tuple #[.int .i64 0, .int .i64 4]) := by rw [rreadV_err h1 h0 (.inr (.inr (.inl (by rw [← htk]; exact h2))))]; rfl
    rw [e]
    clear e h1 h0 hlen htk h3 h22
    go_enter Tryd.func26, Tryd.ntmps26
    go_wp2
    go_ret2
    exact ⟨rfl, Below.refl _ _⟩
end Go.Proofs.YtlhgopdlpjmbhaaDoor
