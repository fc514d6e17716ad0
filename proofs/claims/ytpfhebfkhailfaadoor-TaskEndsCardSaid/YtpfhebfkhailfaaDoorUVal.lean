/- The program's task: which numbers, jobs and accounts may be, New, Ready, Drop, what a tick makes of a job; no condition but those that each row names. -/
import Derived.Test.YtpfhebfkhailfaaDoorQRefE
import Derived.Test.YtpfhebfkhailfaaDoorQRefD
namespace Go.Proofs.YtpfhebfkhailfaaDoor
open Go.RowKit Tsk

theorem pprio (n : Int) (w : World) : Calls Tryd.prog 36 #[.int .i64 n] w fun e w' => e = .returned (.bool (decide (0 ≤ n ∧ n ≤ 31))) ∧ w = w' := by
  by_cases h1 : 0 ≤ n
  · by_cases h2 : n ≤ 31
    · rw [decide_eq_true (p := 0 ≤ n ∧ n ≤ 31) ⟨h1, h2⟩]
      go_enter Tryd.func36, Tryd.ntmps36
      go_wp2
      go_ret
      exact ⟨rfl, rfl⟩
    · rw [decide_eq_false (p := 0 ≤ n ∧ n ≤ 31) (fun h => h2 h.2)]
      have h4 : decide (n ≤ 31) = false := decide_eq_false h2
      go_enter Tryd.func36, Tryd.ntmps36
      go_wp2
      go_ret
      exact ⟨rfl, rfl⟩
  · rw [decide_eq_false (p := 0 ≤ n ∧ n ≤ 31) (fun h => h1 h.1)]
    have h4 : decide (0 ≤ n) = false := decide_eq_false h1
    go_enter Tryd.func36, Tryd.ntmps36
    go_wp2
    go_ret
    exact ⟨rfl, rfl⟩
theorem ptime (n : Int) (w : World) : Calls Tryd.prog 46 #[.int .i64 n] w fun e w' => e = .returned (.bool (decide (0 ≤ n ∧ n ≤ 1073741824))) ∧ w = w' := by
  by_cases h1 : 0 ≤ n
  · by_cases h2 : n ≤ 1073741824
    · rw [decide_eq_true (p := 0 ≤ n ∧ n ≤ 1073741824) ⟨h1, h2⟩]
      go_enter Tryd.func46, Tryd.ntmps46
      go_wp2
      go_ret
      exact ⟨rfl, rfl⟩
    · rw [decide_eq_false (p := 0 ≤ n ∧ n ≤ 1073741824) (fun h => h2 h.2)]
      have h4 : decide (n ≤ 1073741824) = false := decide_eq_false h2
      go_enter Tryd.func46, Tryd.ntmps46
      go_wp2
      go_ret
      exact ⟨rfl, rfl⟩
  · rw [decide_eq_false (p := 0 ≤ n ∧ n ≤ 1073741824) (fun h => h1 h.1)]
    have h4 : decide (0 ≤ n) = false := decide_eq_false h1
    go_enter Tryd.func46, Tryd.ntmps46
    go_wp2
    go_ret
    exact ⟨rfl, rfl⟩
set_option maxHeartbeats 1000000 in
theorem pjob (j : Jb) (w : World) : Calls Tryd.prog 38 #[jV j] w fun e w' => e = .returned (.bool (decide (okJ j))) ∧ Below w.heap.size w w' := by
  obtain ⟨l, c, a, d⟩ := j
  have HB := Lib.hid (show Below w.heap.size w (w.alloc (.cells #[.int .i64 l, .int .i64 c, .int .i64 a, .int .i64 d] JT)) from (Below.refl _ _).alloc (Nat.le_refl _) _)
  go_enter Tryd.func38, Tryd.ntmps38
  go_wp2_with (go_at_call 46; refine (ptime _ _).mono ?_; rintro e w1 ⟨rfl, rfl⟩)
  all_goals (go_ret; exact ⟨ret_bool (by first | exact (decide_eq_false (by rw [okJ_mk]; omega)).symm | exact (decide_eq_true (by rw [okJ_mk]; omega)).symm | (have e : okJ ⟨l, c, a, d⟩ ↔ (0 ≤ d ∧ d ≤ 1073741824) := (by rw [okJ_mk]; omega)); simp [e]), HB.out⟩)
abbrev kV (k : Ac) : Value := .agg #[.int .i64 k.g, .int .i64 k.o, .int .i64 k.n, .int .i64 k.d, .int .i64 k.c, .int .i64 k.t]
set_option maxHeartbeats 1000000 in
theorem pacc_ok (k : Ac) (w : World) (h : okA k) : Calls Tryd.prog 37 #[kV k] w fun e w' => e = .returned (.bool true) ∧ Below w.heap.size w w' := by
  obtain ⟨g, o, n, d, c, t⟩ := k
  have HB := Lib.hid (show Below w.heap.size w (w.alloc (.cells #[.int .i64 g, .int .i64 o, .int .i64 n, .int .i64 d, .int .i64 c, .int .i64 t] 24)) from (Below.refl _ _).alloc (Nat.le_refl _) _)
  obtain ⟨⟨⟨b0, b1⟩, rfl, rfl⟩, ⟨b2, b3⟩, ⟨b4, b5⟩, b6, b7⟩ := (okA_mk _ _ _ _ _ _).1 h
  have w1 : IntKind.i64.wrap (o - c) = o - c := IntWalk.i64_in _ (by omega)
  have w2 : IntKind.i64.wrap (d + c) = d + c := IntWalk.i64_in _ (by omega)
  have b8 : d ≤ o - c := by omega
  clear h
  go_enter Tryd.func37, Tryd.ntmps37
  go_wp2_with (go_at_call 46; refine (ptime _ _).mono ?_; rintro e w1 ⟨rfl, rfl⟩; rw [decide_eq_true (by omega)])
  go_ret
  exact ⟨rfl, HB.out⟩
set_option maxHeartbeats 2000000 in
theorem pacc_no (k : Ac) (w : World) (hc : k.c ≤ 9223372036854775807) (h : ¬ okA k) : Calls Tryd.prog 37 #[kV k] w fun e w' => e = .returned (.bool false) ∧ Below w.heap.size w w' := by
  obtain ⟨g, o, n, d, c, t⟩ := k
  have HB := Lib.hid (show Below w.heap.size w (w.alloc (.cells #[.int .i64 g, .int .i64 o, .int .i64 n, .int .i64 d, .int .i64 c, .int .i64 t] 24)) from (Below.refl _ _).alloc (Nat.le_refl _) _)
  rw [okA_mk] at h
  dsimp only at hc
  by_cases hg : 0 ≤ g ∧ g ≤ 1073741824
  · obtain ⟨hg0, hg1⟩ := hg
    by_cases ho : o = g
    · subst ho
      by_cases hn : n = 0
      · subst hn
        by_cases hd : d < 0
        · clear h
          go_enter Tryd.func37, Tryd.ntmps37
          go_wp2_with (go_at_call 46; refine (ptime _ _).mono ?_; rintro e w1 ⟨rfl, rfl⟩; rw [decide_eq_true (by omega)])
          go_ret
          exact ⟨rfl, HB.out⟩
        · by_cases hc0 : c < 0
          · have hd' : decide (d < 0) = false := decide_eq_false hd
            clear h
            go_enter Tryd.func37, Tryd.ntmps37
            go_wp2_with (go_at_call 46; refine (ptime _ _).mono ?_; rintro e w1 ⟨rfl, rfl⟩; rw [decide_eq_true (by omega)])
            go_ret
            exact ⟨rfl, HB.out⟩
          · by_cases ht : t < 0
            · have hd' : decide (d < 0) = false := decide_eq_false hd
              have hc' : decide (c < 0) = false := decide_eq_false hc0
              clear h
              go_enter Tryd.func37, Tryd.ntmps37
              go_wp2_with (go_at_call 46; refine (ptime _ _).mono ?_; rintro e w1 ⟨rfl, rfl⟩; rw [decide_eq_true (by omega)])
              go_ret
              exact ⟨rfl, HB.out⟩
            · have hd' : decide (d < 0) = false := decide_eq_false hd
              have hc' : decide (c < 0) = false := decide_eq_false hc0
              have ht' : decide (t < 0) = false := decide_eq_false ht
              have w1 : IntKind.i64.wrap (o - c) = o - c := IntWalk.i64_in _ (by omega)
              by_cases h5 : d ≤ o - c
              · have w2 : IntKind.i64.wrap (d + c) = d + c := IntWalk.i64_in _ (by omega)
                have h6 : decide (t ≤ d + c) = false := decide_eq_false (by omega)
                clear h
                go_enter Tryd.func37, Tryd.ntmps37
                go_wp2_with (go_at_call 46; refine (ptime _ _).mono ?_; rintro e w1 ⟨rfl, rfl⟩; rw [decide_eq_true (by omega)])
                go_ret
                exact ⟨rfl, HB.out⟩
              · have h6 : decide (d ≤ o - c) = false := decide_eq_false h5
                clear h
                go_enter Tryd.func37, Tryd.ntmps37
                go_wp2_with (go_at_call 46; refine (ptime _ _).mono ?_; rintro e w1 ⟨rfl, rfl⟩; rw [decide_eq_true (by omega)])
                go_ret
                exact ⟨rfl, HB.out⟩
      · have hn' : (n != 0) = true := by simpa using hn
        clear h
        go_enter Tryd.func37, Tryd.ntmps37
        go_wp2_with (go_at_call 46; refine (ptime _ _).mono ?_; rintro e w1 ⟨rfl, rfl⟩; rw [decide_eq_true (by omega)])
        go_ret
        exact ⟨rfl, HB.out⟩
    · have ho' : (o != g) = true := by simpa using ho
      clear h
      go_enter Tryd.func37, Tryd.ntmps37
      go_wp2_with (go_at_call 46; refine (ptime _ _).mono ?_; rintro e w1 ⟨rfl, rfl⟩; rw [decide_eq_true (by omega)])
      go_ret
      exact ⟨rfl, HB.out⟩
  · clear h
    go_enter Tryd.func37, Tryd.ntmps37
    go_wp2_with (go_at_call 46; refine (ptime _ _).mono ?_; rintro e w1 ⟨rfl, rfl⟩; rw [decide_eq_false hg])
    go_ret
    exact ⟨rfl, HB.out⟩
theorem pacc (k : Ac) (w : World) (hc : k.c ≤ 9223372036854775807) : Calls Tryd.prog 37 #[kV k] w fun e w' => e = .returned (.bool (decide (okA k))) ∧ Below w.heap.size w w' := by
  by_cases h : okA k
  · rw [decide_eq_true h]; exact pacc_ok k w h
  · rw [decide_eq_false h]; exact pacc_no k w hc h
theorem pnew_ok (p : Int) (w : World) (h : 0 ≤ p ∧ p ≤ 31) : Calls Tryd.prog 10 #[.int .i64 p] w fun e w' => e = .returned (.tuple #[tV p (.slice none 0 0) kZ, .nilIface]) ∧ Below w.heap.size w w' := by
  go_enter Tryd.func10, Tryd.ntmps10
  go_wp2_with (go_at_call 36; refine (pprio _ _).mono ?_; rintro e w1 ⟨rfl, rfl⟩; rw [decide_eq_true h])
  exact bodyPost_ret (v := .tuple #[tV p (.slice none 0 0) kZ, .nilIface]) (by simp [results, Tryd.results10, go_sem]) rfl ⟨rfl, (by repeat (first | exact Below.refl _ _ | (with_reducible assumption) | refine Below.drew ?_ | (refine Below.alloc ?_ (by first | exact Nat.le_refl _ | omega | (simp; done) | (simp; omega)) _) | (refine Below.setCell ?_ (by first | omega | (simp; done) | (simp; omega)) _)))⟩
theorem pnew_no (p : Int) (w : World) (h : ¬ (0 ≤ p ∧ p ≤ 31)) : Calls Tryd.prog 10 #[.int .i64 p] w fun e w' => e = .returned (.tuple #[zT, errV 2]) ∧ Below w.heap.size w w' := by
  go_enter Tryd.func10, Tryd.ntmps10
  go_wp2_with (go_at_call 36; refine (pprio _ _).mono ?_; rintro e w1 ⟨rfl, rfl⟩; rw [decide_eq_false h])
  exact bodyPost_ret (v := .tuple #[zT, .iface 61 (.int .i64 2)]) (by simp [results, Tryd.results10, go_sem]) rfl ⟨rfl, (by repeat (first | exact Below.refl _ _ | (with_reducible assumption) | refine Below.drew ?_ | (refine Below.alloc ?_ (by first | exact Nat.le_refl _ | omega | (simp; done) | (simp; omega)) _) | (refine Below.setCell ?_ (by first | omega | (simp; done) | (simp; omega)) _)))⟩
theorem pready (p : Int) (s : Option Addr) (n cap : Nat) (k : Ac) (w : World) : Calls Tryd.prog 26 #[tV p (.slice s n cap) k] w fun e w' => e = .returned (.bool (decide (0 < n))) ∧ Below w.heap.size w w' := by
  go_enter Tryd.func26, Tryd.ntmps26
  go_wp2
  go_ret
  exact ⟨rfl, (Below.refl _ _).alloc (Nat.le_refl _) _⟩
theorem pdrop (p : Int) (s : Option Addr) (n cap : Nat) (k : Ac) (w : World) : Calls Tryd.prog 32 #[tV p (.slice s n cap) k] w fun e w' => e = .returned (.tuple #[tV p (.slice none 0 0) k, .int .i64 n]) ∧ Below w.heap.size w w' := by
  obtain ⟨kg, ko, kn, kd, kc, kt⟩ := k
  go_enter Tryd.func32, Tryd.ntmps32
  go_wp2_with fail
  refine bodyPost_ret (v := .tuple #[tV p (.slice none 0 0) ⟨kg, ko, kn, kd, kc, kt⟩, .int .i64 n]) (by simp [results, Tryd.results32, go_sem]) rfl ⟨rfl, (by repeat (first | exact Below.refl _ _ | (with_reducible assumption) | refine Below.drew ?_ | (refine Below.alloc ?_ (by first | exact Nat.le_refl _ | omega | (simp; done) | (simp; omega)) _) | (refine Below.setCell ?_ (by first | omega | (simp; done) | (simp; omega)) _)))⟩
/-- How many ticks a job can still be given: the program says it by a minimum. -/
theorem pleft (j : Jb) (w : World) (h : okJ j) : Calls Tryd.prog 51 #[jV j] w fun e w' => e = .returned (.int .i64 (need j)) ∧ Below w.heap.size w w' := by
  obtain ⟨l, c, a, d⟩ := j
  obtain ⟨⟨l0, l1⟩, ⟨c0, c1⟩, _, _⟩ := (okJ_mk _ _ _ _).1 h
  by_cases hc : c = 0
  · subst hc
    have e : need ⟨l, 0, a, d⟩ = l := if_neg (by dsimp only; omega)
    rw [e]
    clear e h
    go_enter Tryd.func51, Tryd.ntmps51
    go_wp2
    go_ret
    exact ⟨rfl, (Below.refl _ _).alloc (Nat.le_refl _) _⟩
  · have hc' : (c == 0) = false := by simpa using hc
    have e : need ⟨l, c, a, d⟩ = min l c := by unfold need; dsimp only; split <;> omega
    rw [e]
    clear e h
    go_enter Tryd.func51, Tryd.ntmps51
    go_wp2
    all_goals (go_ret; exact ⟨ret_int (by omega), (Below.refl _ _).alloc (Nat.le_refl _) _⟩)
theorem pworked (j : Jb) (w : World) (h : okJ j) : Calls Tryd.prog 59 #[jV j] w fun e w' => e = .returned (jV (runJ j)) ∧ Below w.heap.size w w' := by
  obtain ⟨l, c, a, d⟩ := j
  obtain ⟨⟨l0, l1⟩, ⟨c0, c1⟩, _, _⟩ := (okJ_mk _ _ _ _).1 h
  have w1 : IntKind.i64.wrap (l - 1) = l - 1 := IntWalk.i64_in _ (by omega)
  have w2 : IntKind.i64.wrap (c - 1) = c - 1 := IntWalk.i64_in _ (by omega)
  by_cases hc : 0 < c
  · have e : runJ ⟨l, c, a, d⟩ = ⟨l - 1, c - 1, a, d⟩ := by unfold runJ; dsimp only; rw [if_pos hc]
    rw [e]
    clear e h
    go_enter Tryd.func59, Tryd.ntmps59
    go_wp2
    refine bodyPost_ret (v := jV ⟨l - 1, c - 1, a, d⟩) (by simp [results, Tryd.results59, go_sem]) rfl ⟨rfl, (by repeat (first | exact Below.refl _ _ | (with_reducible assumption) | refine Below.drew ?_ | (refine Below.alloc ?_ (by first | exact Nat.le_refl _ | omega | (simp; done) | (simp; omega)) _) | (refine Below.setCell ?_ (by first | omega | (simp; done) | (simp; omega)) _)))⟩
  · have hc' : decide (0 < c) = false := decide_eq_false hc
    have e : runJ ⟨l, c, a, d⟩ = ⟨l - 1, c, a, d⟩ := by unfold runJ; dsimp only; rw [if_neg hc]
    rw [e]
    clear e h
    go_enter Tryd.func59, Tryd.ntmps59
    go_wp2
    refine bodyPost_ret (v := jV ⟨l - 1, c, a, d⟩) (by simp [results, Tryd.results59, go_sem]) rfl ⟨rfl, (by repeat (first | exact Below.refl _ _ | (with_reducible assumption) | refine Below.drew ?_ | (refine Below.alloc ?_ (by first | exact Nat.le_refl _ | omega | (simp; done) | (simp; omega)) _) | (refine Below.setCell ?_ (by first | omega | (simp; done) | (simp; omega)) _)))⟩
/-- How late a job ends. -/
def lateS (j : Jb) (end_ : Int) : Int := if j.d = 0 then 0 else max 0 (end_ - j.a - j.d)
theorem plate (j : Jb) (z : Int) (w : World) (h : okJ j) (h0 : 0 ≤ z) (h1 : z ≤ 1073741824) : Calls Tryd.prog 61 #[jV j, .int .i64 z] w fun e w' => e = .returned (.int .i64 (lateS j z)) ∧ Below w.heap.size w w' := by
  obtain ⟨l, c, a, d⟩ := j
  obtain ⟨_, _, ⟨a0, a1⟩, ⟨d0, d1⟩⟩ := (okJ_mk _ _ _ _).1 h
  have w1 : IntKind.i64.wrap (z - a) = z - a := IntWalk.i64_in _ (by omega)
  have w2 : IntKind.i64.wrap (z - a - d) = z - a - d := IntWalk.i64_in _ (by omega)
  by_cases hd : d = 0
  · subst hd
    have e : lateS ⟨l, c, a, 0⟩ z = 0 := if_pos rfl
    rw [e]
    clear e h
    go_enter Tryd.func61, Tryd.ntmps61
    go_wp2
    go_ret
    exact ⟨rfl, (Below.refl _ _).alloc (Nat.le_refl _) _⟩
  · have hd' : (d == 0) = false := by simpa using hd
    have e : lateS ⟨l, c, a, d⟩ z = max 0 (z - a - d) := if_neg hd
    rw [e]
    clear e h
    go_enter Tryd.func61, Tryd.ntmps61
    go_wp2
    all_goals (go_ret; exact ⟨ret_int (by omega), (Below.refl _ _).alloc (Nat.le_refl _) _⟩)
/-- An account in which one more job has ended. -/
def endedK (k : Ac) (what late : Int) : Ac := ⟨k.g, k.o, k.n, if what = 1 then k.d + 1 else k.d, if what = 1 then k.c else k.c + 1, if 0 < late then k.t + 1 else k.t⟩
set_option maxHeartbeats 1000000 in
theorem pended (k : Ac) (what late : Int) (w : World) (h0 : 0 ≤ k.d ∧ k.d ≤ 1073741824) (h1 : 0 ≤ k.c ∧ k.c ≤ 1073741824) (h2 : 0 ≤ k.t ∧ k.t ≤ 2147483648) :
    Calls Tryd.prog 62 #[kV k, .int .i64 what, .int .i64 late] w fun e w' => e = .returned (kV (endedK k what late)) ∧ Below w.heap.size w w' := by
  obtain ⟨g, o, n, d, c, t⟩ := k
  dsimp only at h0 h1 h2
  obtain ⟨d0, d1⟩ := h0
  obtain ⟨c0, c1⟩ := h1
  obtain ⟨t0, t1⟩ := h2
  have w1 : IntKind.i64.wrap (d + 1) = d + 1 := IntWalk.i64_in _ (by omega)
  have w2 : IntKind.i64.wrap (c + 1) = c + 1 := IntWalk.i64_in _ (by omega)
  have w3 : IntKind.i64.wrap (t + 1) = t + 1 := IntWalk.i64_in _ (by omega)
  by_cases hw : what = 1
  · subst hw
    by_cases hl : 0 < late
    · have e : endedK ⟨g, o, n, d, c, t⟩ 1 late = ⟨g, o, n, d + 1, c, t + 1⟩ := by unfold endedK; simp [hl]
      rw [e]
      clear e
      go_enter Tryd.func62, Tryd.ntmps62
      go_wp2
      refine bodyPost_ret (v := kV ⟨g, o, n, d + 1, c, t + 1⟩) (by simp [results, Tryd.results62, go_sem]) rfl ⟨rfl, (by repeat (first | exact Below.refl _ _ | (with_reducible assumption) | refine Below.drew ?_ | (refine Below.alloc ?_ (by first | exact Nat.le_refl _ | omega | (simp; done) | (simp; omega)) _) | (refine Below.setCell ?_ (by first | omega | (simp; done) | (simp; omega)) _)))⟩
    · have hl' : decide (0 < late) = false := decide_eq_false hl
      have e : endedK ⟨g, o, n, d, c, t⟩ 1 late = ⟨g, o, n, d + 1, c, t⟩ := by unfold endedK; simp [hl]
      rw [e]
      clear e
      go_enter Tryd.func62, Tryd.ntmps62
      go_wp2
      refine bodyPost_ret (v := kV ⟨g, o, n, d + 1, c, t⟩) (by simp [results, Tryd.results62, go_sem]) rfl ⟨rfl, (by repeat (first | exact Below.refl _ _ | (with_reducible assumption) | refine Below.drew ?_ | (refine Below.alloc ?_ (by first | exact Nat.le_refl _ | omega | (simp; done) | (simp; omega)) _) | (refine Below.setCell ?_ (by first | omega | (simp; done) | (simp; omega)) _)))⟩
  · have hw' : (what == 1) = false := by simpa using hw
    by_cases hl : 0 < late
    · have e : endedK ⟨g, o, n, d, c, t⟩ what late = ⟨g, o, n, d, c + 1, t + 1⟩ := by unfold endedK; simp [hl, hw]
      rw [e]
      clear e
      go_enter Tryd.func62, Tryd.ntmps62
      go_wp2
      refine bodyPost_ret (v := kV ⟨g, o, n, d, c + 1, t + 1⟩) (by simp [results, Tryd.results62, go_sem]) rfl ⟨rfl, (by repeat (first | exact Below.refl _ _ | (with_reducible assumption) | refine Below.drew ?_ | (refine Below.alloc ?_ (by first | exact Nat.le_refl _ | omega | (simp; done) | (simp; omega)) _) | (refine Below.setCell ?_ (by first | omega | (simp; done) | (simp; omega)) _)))⟩
    · have hl' : decide (0 < late) = false := decide_eq_false hl
      have e : endedK ⟨g, o, n, d, c, t⟩ what late = ⟨g, o, n, d, c + 1, t⟩ := by unfold endedK; simp [hl, hw]
      rw [e]
      clear e
      go_enter Tryd.func62, Tryd.ntmps62
      go_wp2
      refine bodyPost_ret (v := kV ⟨g, o, n, d, c + 1, t⟩) (by simp [results, Tryd.results62, go_sem]) rfl ⟨rfl, (by repeat (first | exact Below.refl _ _ | (with_reducible assumption) | refine Below.drew ?_ | (refine Below.alloc ?_ (by first | exact Nat.le_refl _ | omega | (simp; done) | (simp; omega)) _) | (refine Below.setCell ?_ (by first | omega | (simp; done) | (simp; omega)) _)))⟩
end Go.Proofs.YtpfhebfkhailfaaDoor
