/- The program's Limit, Len, Room, has, At and Head of a queue of jobs; the world stays; no condition but the queue's own. -/
import Derived.Test.YtpfhebfkhailfaaDoorQMem
import Derived.Test.YtpfhebfkhailfaaDoorFRow
import Derived.Test.YtpfhebfkhailfaaDoorProg
import Derived.RegionTactic
import Derived.IntWalk
import Derived.BigQuiet
namespace Go.Proofs.YtpfhebfkhailfaaDoor
open Go.RowKit Tsk

theorem PQ.elem4 {T E : TypeId} {B : Nat} {w : World} {A : Qu} {b : Nat} {s : Value} (h : PQ T E 4 B w A b s) (hA : A.Good 4) {g cap : Nat} (hs : s = .slice (some ⟨g, 0, none⟩) A.l.length cap) {i : Nat} (hi : i < A.l.length) {x0 x1 x2 x3 : Value} (hv : A.l[i].1 = .agg #[x0, x1, x2, x3]) :
    w.cell? ⟨g, i * 5, none⟩ = some x0 ∧ w.cell? ⟨g, i * 5 + 1, none⟩ = some x1 ∧ w.cell? ⟨g, i * 5 + 2, none⟩ = some x2 ∧ w.cell? ⟨g, i * 5 + 3, none⟩ = some x3 := by
  have ho := h.own
  subst hs
  have f := fun j hj => flat_cells hA.wd hi j hj
  rw [hv] at f
  have e := fun j (hj : j < 4) => (ho.cellAt (i * 5 + j) (by omega)).trans (f j hj)
  exact ⟨e 0 (by omega), e 1 (by omega), e 2 (by omega), e 3 (by omega)⟩

abbrev QT_J : TypeId := 82
abbrev ET_J : TypeId := 84
abbrev zero_J : Value := .agg #[.int .i64 0, .int .i64 0, .int .i64 0, .int .i64 0]

set_option maxHeartbeats 400000 in
theorem limit_J (k B : Nat) (A : Qu) (w : World) (b : Nat) (s : Value) (h : PQ QT_J ET_J k B w A b s) :
    Calls Tryd.prog 64 #[.pointer (some ⟨b, 0, none⟩)] w fun e w' => e = .returned (.int .i64 A.limit) ∧ w = w' := by
  have f0 := h.f0
  clear h
  go_enter Tryd.func64, Tryd.ntmps64
  go_wp2
  go_ret
  exact ⟨rfl, rfl⟩
set_option maxHeartbeats 400000 in
theorem limit_nil_J (w : World) :
    Calls Tryd.prog 64 #[.pointer none] w fun e w' => e = .returned (.int .i64 0) ∧ w = w' := by
  go_enter Tryd.func64, Tryd.ntmps64
  go_wp2
  go_ret
  exact ⟨rfl, rfl⟩
set_option maxHeartbeats 400000 in
theorem len_J (k B : Nat) (A : Qu) (w : World) (b : Nat) (s : Value) (h : PQ QT_J ET_J k B w A b s) :
    Calls Tryd.prog 65 #[.pointer (some ⟨b, 0, none⟩)] w fun e w' => e = .returned (.int .i64 A.l.length) ∧ w = w' := by
  obtain ⟨p, cap, rfl⟩ := h.shape
  have f1 := h.f1
  clear h
  go_enter Tryd.func65, Tryd.ntmps65
  go_wp2
  go_ret
  exact ⟨rfl, rfl⟩
set_option maxHeartbeats 400000 in
theorem len_nil_J (w : World) :
    Calls Tryd.prog 65 #[.pointer none] w fun e w' => e = .returned (.int .i64 0) ∧ w = w' := by
  go_enter Tryd.func65, Tryd.ntmps65
  go_wp2
  go_ret
  exact ⟨rfl, rfl⟩
set_option maxHeartbeats 400000 in
theorem room_J (k B : Nat) (A : Qu) (hA : A.Good k) (w : World) (b : Nat) (s : Value) (h : PQ QT_J ET_J k B w A b s) :
    Calls Tryd.prog 54 #[.pointer (some ⟨b, 0, none⟩)] w fun e w' => e = .returned (.int .i64 (A.limit - A.l.length)) ∧ w = w' := by
  have HL := Lib.hid (limit_J k B A w b s h)
  have HN := Lib.hid (len_J k B A w b s h)
  have l0 := hA.l0
  have l1 := hA.l1
  have n4 := hA.n4
  clear h hA
  go_enter Tryd.func54, Tryd.ntmps54
  go_wp2_with fail
  refine HL.out.mono ?_
  rintro e w1 ⟨rfl, rfl⟩
  go_wp2_with fail
  refine HN.out.mono ?_
  rintro e w1 ⟨rfl, rfl⟩
  go_wp2_with fail
  go_ret
  exact ⟨rfl, rfl⟩
set_option maxHeartbeats 400000 in
theorem room_nil_J (w : World) :
    Calls Tryd.prog 54 #[.pointer none] w fun e w' => e = .returned (.int .i64 0) ∧ w = w' := by
  go_enter Tryd.func54, Tryd.ntmps54
  go_wp2_with fail
  refine (limit_nil_J w).mono ?_
  rintro e w1 ⟨rfl, rfl⟩
  go_wp2_with fail
  refine (len_nil_J w).mono ?_
  rintro e w1 ⟨rfl, rfl⟩
  go_wp2_with fail
  go_ret
  exact ⟨rfl, rfl⟩

set_option maxHeartbeats 400000 in
theorem has_J (k B : Nat) (A : Qu) (w : World) (b : Nat) (s : Value) (h : PQ QT_J ET_J k B w A b s) (i : Int) :
    Calls Tryd.prog 68 #[.pointer (some ⟨b, 0, none⟩), .int .i64 i] w fun e w' => e = .returned (.bool (hasB A i)) ∧ w = w' := by
  have HN := Lib.hid (len_J k B A w b s h)
  clear h
  by_cases h0 : 0 ≤ i
  · by_cases h1 : i < (A.l.length : Int)
    · rw [show hasB A i = true from hasB_iff.2 ⟨h0, h1⟩]
      go_enter Tryd.func68, Tryd.ntmps68
      go_wp2_with fail
      refine HN.out.mono ?_
      rintro e w1 ⟨rfl, rfl⟩
      go_wp2_with fail
      go_ret
      exact ⟨rfl, rfl⟩
    · have h1' : (A.l.length : Int) ≤ i := by omega
      rw [show hasB A i = false from by simp [hasB]; omega]
      go_enter Tryd.func68, Tryd.ntmps68
      go_wp2_with fail
      refine HN.out.mono ?_
      rintro e w1 ⟨rfl, rfl⟩
      go_wp2_with fail
      go_ret
      exact ⟨ret_bool (decide_eq_false (by omega)), rfl⟩
  · rw [show hasB A i = false from by simp [hasB]; omega]
    have h0' : decide (0 ≤ i) = false := by simpa using h0
    go_enter Tryd.func68, Tryd.ntmps68
    go_wp2_with fail
    go_ret
    exact ⟨rfl, rfl⟩
set_option maxHeartbeats 400000 in
theorem has_nil_J (w : World) (i : Int) :
    Calls Tryd.prog 68 #[.pointer none, .int .i64 i] w fun e w' => e = .returned (.bool false) ∧ w = w' := by
  by_cases h0 : 0 ≤ i
  · have h1 : ¬ i < 0 := by omega
    go_enter Tryd.func68, Tryd.ntmps68
    go_wp2_with fail
    refine (len_nil_J w).mono ?_
    rintro e w1 ⟨rfl, rfl⟩
    go_wp2_with fail
    go_ret
    exact ⟨ret_bool (decide_eq_false (by omega)), rfl⟩
  · have h0' : decide (0 ≤ i) = false := by simpa using h0
    go_enter Tryd.func68, Tryd.ntmps68
    go_wp2_with fail
    go_ret
    exact ⟨rfl, rfl⟩

set_option maxHeartbeats 400000 in
theorem at_yes_J (B : Nat) (A : Qu) (hA : A.Good 4) (w : World) (b : Nat) (s : Value) (h : PQ QT_J ET_J 4 B w A b s) (i : Nat) (hi : i < A.l.length) (x : Jb) (hv : A.l[i].1 = (.agg #[.int .i64 x.l, .int .i64 x.c, .int .i64 x.a, .int .i64 x.d])) :
    Calls Tryd.prog 67 #[.pointer (some ⟨b, 0, none⟩), .int .i64 i] w fun e w' => e = .returned (.tuple #[(.agg #[.int .i64 x.l, .int .i64 x.c, .int .i64 x.a, .int .i64 x.d]), .bool true]) ∧ Below w.heap.size w w' := by
  obtain ⟨g, cap, hs, _, _, _⟩ := h.form (by omega)
  have HN := Lib.hid (has_J 4 B A (w.alloc (.cells #[.int .i64 0, .int .i64 0, .int .i64 0, .int .i64 0] 42)) b s (h.alloc _) i)
  rw [show hasB A i = true from hasB_iff.2 ⟨by omega, by omega⟩] at HN
  obtain ⟨q0, q1, q2, q3⟩ := h.elem4 hA hs hi hv
  have f1 := h.f1
  subst hs
  have z0 : (0 : Int) ≤ (i : Int) := by omega
  have z1 : (i : Int) < (A.l.length : Int) := by omega
  have hgl := cell_lt q0
  have hbl := cell_lt f1
  simp only at hgl hbl
  clear h hA hv
  go_enter Tryd.func67, Tryd.ntmps67
  go_wp2_with fail
  refine HN.out.mono ?_
  rintro e w1 ⟨rfl, rfl⟩
  go_wp2_with fail
  refine bodyPost_ret (v := .tuple #[.agg #[.int .i64 x.l, .int .i64 x.c, .int .i64 x.a, .int .i64 x.d], .bool true]) (by simp [results, Tryd.results67, go_sem]) rfl ⟨rfl, ?_⟩
  exact ((Below.refl _ w).alloc (Nat.le_refl _) _)
set_option maxHeartbeats 400000 in
theorem at_no_J (k B : Nat) (A : Qu) (w : World) (b : Nat) (s : Value) (h : PQ QT_J ET_J k B w A b s) (i : Int) (hi : hasB A i = false) :
    Calls Tryd.prog 67 #[.pointer (some ⟨b, 0, none⟩), .int .i64 i] w fun e w' => e = .returned (.tuple #[zero_J, .bool false]) ∧ Below w.heap.size w w' := by
  have HN := Lib.hid (has_J k B A (w.alloc (.cells #[.int .i64 0, .int .i64 0, .int .i64 0, .int .i64 0] 42)) b s (h.alloc _) i)
  rw [hi] at HN
  clear h hi
  go_enter Tryd.func67, Tryd.ntmps67
  go_wp2_with fail
  refine HN.out.mono ?_
  rintro e w1 ⟨rfl, rfl⟩
  go_wp2_with fail
  refine bodyPost_ret (v := .tuple #[.agg #[.int .i64 0, .int .i64 0, .int .i64 0, .int .i64 0], .bool false]) (by simp [results, Tryd.results67, go_sem]) rfl ⟨rfl, ?_⟩
  exact (((Below.refl _ w).alloc (Nat.le_refl _) _).alloc (by simp) _)
set_option maxHeartbeats 400000 in
theorem at_nil_J (w : World) (i : Int) :
    Calls Tryd.prog 67 #[.pointer none, .int .i64 i] w fun e w' => e = .returned (.tuple #[zero_J, .bool false]) ∧ Below w.heap.size w w' := by
  go_enter Tryd.func67, Tryd.ntmps67
  go_wp2_with fail
  refine (has_nil_J _ i).mono ?_
  rintro e w1 ⟨rfl, rfl⟩
  go_wp2_with fail
  refine bodyPost_ret (v := .tuple #[.agg #[.int .i64 0, .int .i64 0, .int .i64 0, .int .i64 0], .bool false]) (by simp [results, Tryd.results67, go_sem]) rfl ⟨rfl, ?_⟩
  exact (((Below.refl _ w).alloc (Nat.le_refl _) _).alloc (by simp) _)
theorem Tryd.inf84 : (Tryd.prog.info? 84).map (fun i => (i.zero, i.size, i.bytes)) = some (some (.agg #[.int .i64 0, .int .i64 0, .int .i64 0, .int .i64 0, .int .i64 0]), 5, 40) := by kernel_rfl
theorem len_cc_J {k B b : Nat} {w : World} {A : Qu} {s : Value} (h : PQ QT_J ET_J k B w A b s) {c : Nat} (hc : A.l.length = c) : Calls Tryd.prog 65 #[.pointer (some ⟨b, 0, none⟩)] w fun e w' => e = .returned (.int .i64 c) ∧ w = w' := hc ▸ len_J k B A w b s h
end Go.Proofs.YtpfhebfkhailfaaDoor
