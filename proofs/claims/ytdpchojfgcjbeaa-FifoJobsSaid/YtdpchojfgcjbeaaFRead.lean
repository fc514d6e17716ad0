/- The program's Limit, Len, Room, has, At and Head of a queue; the world stays; no condition but the queue's own. -/
import Derived.Test.YtdpchojfgcjbeaaFQ
import Derived.Test.YtdpchojfgcjbeaaProg
import Derived.RegionTactic
import Derived.IntWalk
import Derived.BigQuiet
namespace Go.Proofs.Ytdpchojfgcjbeaa
open Go.RowKit

abbrev QT_I : TypeId := 43
abbrev ET_I : TypeId := 94
abbrev zero_I : Value := .int .i64 0

set_option maxHeartbeats 400000 in
theorem limit_I (k B : Nat) (A : Qu) (w : World) (b : Nat) (s : Value) (h : PQ QT_I ET_I k B w A b s) :
    Calls Try.prog 22 #[.pointer (some ⟨b, 0, none⟩)] w fun e w' => e = .returned (.int .i64 A.limit) ∧ w = w' := by
  have f0 := h.f0
  clear h
  go_enter Try.func22, Try.ntmps22
  go_wp2
  go_ret
  exact ⟨rfl, rfl⟩
set_option maxHeartbeats 400000 in
theorem limit_nil_I (w : World) :
    Calls Try.prog 22 #[.pointer none] w fun e w' => e = .returned (.int .i64 0) ∧ w = w' := by
  go_enter Try.func22, Try.ntmps22
  go_wp2
  go_ret
  exact ⟨rfl, rfl⟩
set_option maxHeartbeats 400000 in
theorem len_I (k B : Nat) (A : Qu) (w : World) (b : Nat) (s : Value) (h : PQ QT_I ET_I k B w A b s) :
    Calls Try.prog 20 #[.pointer (some ⟨b, 0, none⟩)] w fun e w' => e = .returned (.int .i64 A.l.length) ∧ w = w' := by
  obtain ⟨p, cap, rfl⟩ := h.shape
  have f1 := h.f1
  clear h
  go_enter Try.func20, Try.ntmps20
  go_wp2
  go_ret
  exact ⟨rfl, rfl⟩
set_option maxHeartbeats 400000 in
theorem len_nil_I (w : World) :
    Calls Try.prog 20 #[.pointer none] w fun e w' => e = .returned (.int .i64 0) ∧ w = w' := by
  go_enter Try.func20, Try.ntmps20
  go_wp2
  go_ret
  exact ⟨rfl, rfl⟩
set_option maxHeartbeats 400000 in
theorem room_I (k B : Nat) (A : Qu) (hA : A.Good k) (w : World) (b : Nat) (s : Value) (h : PQ QT_I ET_I k B w A b s) :
    Calls Try.prog 21 #[.pointer (some ⟨b, 0, none⟩)] w fun e w' => e = .returned (.int .i64 (A.limit - A.l.length)) ∧ w = w' := by
  have HL := Lib.hid (limit_I k B A w b s h)
  have HN := Lib.hid (len_I k B A w b s h)
  have l0 := hA.l0
  have l1 := hA.l1
  have n4 := hA.n4
  clear h hA
  go_enter Try.func21, Try.ntmps21
  go_wp2_with fail
  refine HL.out.mono ?_
  rintro e w1 ⟨rfl, rfl⟩
  go_wp2_with fail
  refine HN.out.mono ?_
  rintro e w1 ⟨rfl, rfl⟩
  go_wp2_with fail
  go_ret
  exact ⟨rfl, rfl⟩
set_option maxHeartbeats 400000 in
theorem room_nil_I (w : World) :
    Calls Try.prog 21 #[.pointer none] w fun e w' => e = .returned (.int .i64 0) ∧ w = w' := by
  go_enter Try.func21, Try.ntmps21
  go_wp2_with fail
  refine (limit_nil_I w).mono ?_
  rintro e w1 ⟨rfl, rfl⟩
  go_wp2_with fail
  refine (len_nil_I w).mono ?_
  rintro e w1 ⟨rfl, rfl⟩
  go_wp2_with fail
  go_ret
  exact ⟨rfl, rfl⟩

set_option maxHeartbeats 400000 in
theorem has_I (k B : Nat) (A : Qu) (w : World) (b : Nat) (s : Value) (h : PQ QT_I ET_I k B w A b s) (i : Int) :
    Calls Try.prog 48 #[.pointer (some ⟨b, 0, none⟩), .int .i64 i] w fun e w' => e = .returned (.bool (hasB A i)) ∧ w = w' := by
  have HN := Lib.hid (len_I k B A w b s h)
  clear h
  by_cases h0 : 0 ≤ i
  · by_cases h1 : i < (A.l.length : Int)
    · rw [show hasB A i = true from hasB_iff.2 ⟨h0, h1⟩]
      go_enter Try.func48, Try.ntmps48
      go_wp2_with fail
      refine HN.out.mono ?_
      rintro e w1 ⟨rfl, rfl⟩
      go_wp2_with fail
      go_ret
      exact ⟨rfl, rfl⟩
    · have h1' : (A.l.length : Int) ≤ i := by omega
      rw [show hasB A i = false from by simp [hasB]; omega]
      go_enter Try.func48, Try.ntmps48
      go_wp2_with fail
      refine HN.out.mono ?_
      rintro e w1 ⟨rfl, rfl⟩
      go_wp2_with fail
      go_ret
      exact ⟨ret_bool (decide_eq_false (by omega)), rfl⟩
  · rw [show hasB A i = false from by simp [hasB]; omega]
    have h0' : decide (0 ≤ i) = false := by simpa using h0
    go_enter Try.func48, Try.ntmps48
    go_wp2_with fail
    go_ret
    exact ⟨rfl, rfl⟩
set_option maxHeartbeats 400000 in
theorem has_nil_I (w : World) (i : Int) :
    Calls Try.prog 48 #[.pointer none, .int .i64 i] w fun e w' => e = .returned (.bool false) ∧ w = w' := by
  by_cases h0 : 0 ≤ i
  · have h1 : ¬ i < 0 := by omega
    go_enter Try.func48, Try.ntmps48
    go_wp2_with fail
    refine (len_nil_I w).mono ?_
    rintro e w1 ⟨rfl, rfl⟩
    go_wp2_with fail
    go_ret
    exact ⟨ret_bool (decide_eq_false (by omega)), rfl⟩
  · have h0' : decide (0 ≤ i) = false := by simpa using h0
    go_enter Try.func48, Try.ntmps48
    go_wp2_with fail
    go_ret
    exact ⟨rfl, rfl⟩

set_option maxHeartbeats 400000 in
theorem at_yes_I (B : Nat) (A : Qu) (hA : A.Good 1) (w : World) (b : Nat) (s : Value) (h : PQ QT_I ET_I 1 B w A b s) (i : Nat) (hi : i < A.l.length) (x : Int) (hv : A.l[i].1 = (.int .i64 x)) :
    Calls Try.prog 16 #[.pointer (some ⟨b, 0, none⟩), .int .i64 i] w fun e w' => e = .returned (.tuple #[(.int .i64 x), .bool true]) ∧ w = w' := by
  obtain ⟨g, cap, hs, _, _, _⟩ := h.form (by omega)
  have HN := Lib.hid (has_I 1 B A w b s h i)
  rw [show hasB A i = true from hasB_iff.2 ⟨by omega, by omega⟩] at HN
  obtain ⟨q, _⟩ := h.elem1 hA hs hi hv rfl
  have f1 := h.f1
  subst hs
  have z0 : (0 : Int) ≤ (i : Int) := by omega
  have z1 : (i : Int) < (A.l.length : Int) := by omega
  clear h hA hv
  go_enter Try.func16, Try.ntmps16
  go_wp2_with fail
  refine HN.out.mono ?_
  rintro e w1 ⟨rfl, rfl⟩
  go_wp2_with fail
  go_ret2
  exact ⟨rfl, rfl⟩
set_option maxHeartbeats 400000 in
theorem at_no_I (k B : Nat) (A : Qu) (w : World) (b : Nat) (s : Value) (h : PQ QT_I ET_I k B w A b s) (i : Int) (hi : hasB A i = false) :
    Calls Try.prog 16 #[.pointer (some ⟨b, 0, none⟩), .int .i64 i] w fun e w' => e = .returned (.tuple #[zero_I, .bool false]) ∧ w = w' := by
  have HN := Lib.hid (has_I k B A w b s h i)
  rw [hi] at HN
  clear h hi
  go_enter Try.func16, Try.ntmps16
  go_wp2_with fail
  refine HN.out.mono ?_
  rintro e w1 ⟨rfl, rfl⟩
  go_wp2_with fail
  go_ret2
  exact ⟨rfl, rfl⟩
set_option maxHeartbeats 400000 in
theorem at_nil_I (w : World) (i : Int) :
    Calls Try.prog 16 #[.pointer none, .int .i64 i] w fun e w' => e = .returned (.tuple #[zero_I, .bool false]) ∧ w = w' := by
  go_enter Try.func16, Try.ntmps16
  go_wp2_with fail
  refine (has_nil_I w i).mono ?_
  rintro e w1 ⟨rfl, rfl⟩
  go_wp2_with fail
  go_ret2
  exact ⟨rfl, rfl⟩
set_option maxHeartbeats 400000 in
theorem head_of_I (w : World) (q : Value) (x y : Value) (h : Calls Try.prog 16 #[q, .int .i64 0] w fun e w' => e = .returned (.tuple #[x, y]) ∧ w = w') :
    Calls Try.prog 15 #[q] w fun e w' => e = .returned (.tuple #[x, y]) ∧ w = w' := by
  have H := Lib.hid h
  clear h
  go_enter Try.func15, Try.ntmps15
  go_wp2_with fail
  refine H.out.mono ?_
  rintro e w1 ⟨rfl, rfl⟩
  go_wp2_with fail
  go_ret2
  exact ⟨rfl, rfl⟩
theorem Try.inf94 : (Try.prog.info? 94).map (fun i => (i.zero, i.size, i.bytes)) = some (some (.agg #[.int .i64 0, .int .i64 0]), 2, 16) := by kernel_rfl
theorem len_cc_I {k B b : Nat} {w : World} {A : Qu} {s : Value} (h : PQ QT_I ET_I k B w A b s) {c : Nat} (hc : A.l.length = c) : Calls Try.prog 20 #[.pointer (some ⟨b, 0, none⟩)] w fun e w' => e = .returned (.int .i64 c) ∧ w = w' := hc ▸ len_I k B A w b s h
end Go.Proofs.Ytdpchojfgcjbeaa
