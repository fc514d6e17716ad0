/- Texts of stages 3, 4, 12 and 13 that stand together: QRefD UVal UValid UQueue UPush UGive; no condition but those that each row names. -/
import Derived.Test.YthbkinopgialmaaZU3
/- The document's own task: Run; no condition but those that each row names. -/
namespace Go.Proofs.Ythbkinopgialmaa
open Go.RowKit Tsk

/-- What a tick makes of the first job: the job, what became of it, how late it was, the account. -/
def runJ (j : Jb) : Jb := ⟨j.l - 1, if 0 < j.c then j.c - 1 else j.c, j.a, j.d⟩
def runW (j : Jb) : Int := if j.l = 1 then 1 else if j.c = 1 then 2 else 0
def runL (j : Jb) (now : Int) : Int := if (j.l = 1 ∨ j.c = 1) ∧ 0 < j.d ∧ 0 < now + 1 - j.a - j.d then now + 1 - j.a - j.d else 0
def runK (k : Ac) (j : Jb) (now : Int) : Ac := ⟨k.g + 1, k.o + 1, k.n, if j.l = 1 then k.d + 1 else k.d, if j.l ≠ 1 ∧ j.c = 1 then k.c + 1 else k.c, if (j.l = 1 ∨ j.c = 1) ∧ 0 < j.d ∧ 0 < now + 1 - j.a - j.d then k.t + 1 else k.t⟩
def runN (n : Nat) (j : Jb) : Nat := if j.l = 1 ∨ j.c = 1 then n - 1 else n
def runF (f : Nat → Jb) : Nat → Jb := if (f 0).l = 1 ∨ (f 0).c = 1 then fun i => f (i + 1) else upd f 0 (runJ (f 0))
/-- What is answered: a task whose jobs read so. -/
def TaskR (w : World) (p : Int) (n : Nat) (f : Nat → Jb) (k : Ac) (x : Value) (w' : World) : Prop := ∃ s, x = tV p s k ∧ Jobs w' s n f ∧ Below w.heap.size w w'
theorem ac_eq {g o m d c t g' o' m' d' c' t' : Int} (h1 : g = g') (h2 : o = o') (h3 : m = m') (h4 : d = d') (h5 : c = c') (h6 : t = t') : (⟨g, o, m, d, c, t⟩ : Ac) = ⟨g', o', m', d', c', t'⟩ := by rw [h1, h2, h3, h4, h5, h6]
theorem ret_run {x : Value} {a b a' b' : Int} (h1 : a = a') (h2 : b = b') : Ending.returned (.tuple #[x, .int .i64 a, .int .i64 b, .int .i64 0]) = .returned (.tuple #[x, .int .i64 a', .int .i64 b', .int .i64 0]) := by rw [h1, h2]
theorem task_run {w w' : World} {p : Int} {s : Value} {g o m d c t : Int} {n n' : Nat} {f f' : Nat → Jb} {k : Ac} (hk : k = ⟨g, o, m, d, c, t⟩) (hn : n' = n) (hf : ∀ i, i < n → f i = f' i) (hj : Jobs w' s n f) (hb : Below w.heap.size w w') : TaskR w p n' f' k (tV p s ⟨g, o, m, d, c, t⟩) w' := by
  subst hk hn
  exact ⟨s, rfl, hj.congr hf, hb⟩
theorem jobs_tail {B n c4 : Nat} {W : World} {g : Nat} {F : Nat → Jb} (h : JobsO B W (.slice (some ⟨g, 0, none⟩) n c4) n F) (hn : n ≤ 9223372036854775807) : Jobs W (.slice (some ⟨g, 4, none⟩) (n - 1) (c4 - 1)) (n - 1) (fun i => F (i + 1)) := by
  refine ⟨_, _, rfl, by omega, fun j hj => ⟨g, 4, rfl, ?_⟩⟩
  obtain ⟨c0, c1, c2, c3⟩ := jbL_at F (show j + 1 < n by omega)
  have e := fun i (hi : i < 4) => World.ownsRow.cellAt h ((j + 1) * 4 + i) (by omega)
  have e0 := (e 0 (by omega)).trans c0
  have e1 := (e 1 (by omega)).trans c1
  have e2 := (e 2 (by omega)).trans c2
  have e3 := (e 3 (by omega)).trans c3
  rw [show (j + 1) * 4 + 0 = 4 + j * 4 by omega] at e0
  rw [show (j + 1) * 4 + 1 = 4 + j * 4 + 1 by omega] at e1
  rw [show (j + 1) * 4 + 2 = 4 + j * 4 + 2 by omega] at e2
  rw [show (j + 1) * 4 + 3 = 4 + j * 4 + 3 by omega] at e3
  exact ⟨e0, e1, e2, e3⟩
theorem jobs_none (W : World) (g : Option Addr) (m c : Nat) (F : Nat → Jb) (h : m = 0) : Jobs W (.slice g m c) m F := by
  subst h
  exact ⟨_, _, rfl, by omega, fun j hj => by omega⟩
/-- The task is a twin of its own, in its block, and has a job. -/
def Ran0 (w : World) (p : Int) (n : Nat) (f : Nat → Jb) (k : Ac) (wx : World) : Prop := ∃ g c4, HasT wx w.heap.size p (.slice (some ⟨g, 0, none⟩) n c4) k ∧ HasT wx (w.heap.size + 1) 0 (.slice none 0 0) kZ ∧ JobsO (w.heap.size + 2) wx (.slice (some ⟨g, 0, none⟩) n c4) n f ∧ Below w.heap.size w wx
theorem Ran0.made {w w4 : World} {p : Int} {n : Nat} {f : Nat → Jb} {k : Ac} {s : Value} {s4 : Option Addr} {c4 : Nat} (h1 : HasT w4 w.heap.size p s k) (h3 : HasT w4 (w.heap.size + 1) 0 (.slice none 0 0) kZ) (h4 : JobsO (w.heap.size + 2) w4 (.slice s4 n c4) n f) (h5 : Below w.heap.size w w4) (h0 : 0 < n) :
    Ran0 w p n f k ((((((((w4.setCell ⟨w.heap.size, 0, none⟩ (.int .i64 p)).setCell ⟨w.heap.size, 1, none⟩ (.slice s4 n c4)).setCell ⟨w.heap.size, 2, none⟩ (.int .i64 k.g)).setCell ⟨w.heap.size, 3, none⟩ (.int .i64 k.o)).setCell ⟨w.heap.size, 4, none⟩ (.int .i64 k.n)).setCell ⟨w.heap.size, 5, none⟩ (.int .i64 k.d)).setCell ⟨w.heap.size, 6, none⟩ (.int .i64 k.c)).setCell ⟨w.heap.size, 7, none⟩ (.int .i64 k.t)) := by
  obtain ⟨g, cap, e, _, _, _⟩ := own_block2 h4 h0
  cases e
  refine ⟨g, c4, HasT.set8 h1, ?_, ?_, ?_⟩
  · unfold HasT
    iterate 8 refine has_other ?_ _ _ (by show w.heap.size ≠ w.heap.size + 1; omega)
    exact h3
  · iterate 8 refine own_low ?_ _ _ (by show w.heap.size < w.heap.size + 2; omega)
    exact h4
  · iterate 8 refine below_low ?_ _ _ (Nat.le_refl _)
    exact h5
/-- The error of a run. -/
def runE (p : Int) (n : Nat) (f : Nat → Jb) (k : Ac) (now : Int) : Int :=
  if ¬ okT p n f k then 270 else if ¬ (0 ≤ now ∧ now < 1073741824) then 1 else if n = 0 then 50 else if k.g = 1073741824 then 60 else 0
theorem zero_taskR {w w' : World} (f : Nat → Jb) (hb : Below w.heap.size w w') : TaskR w 0 0 f kZ zT w' := ⟨_, rfl, jobs_none _ _ _ _ _ rfl, hb⟩
end Go.Proofs.Ythbkinopgialmaa
/- The program's task: which numbers, jobs and accounts may be, New, Ready, Drop, what a tick makes of a job; no condition but those that each row names. -/
namespace Go.Proofs.Ythbkinopgialmaa
open Go.RowKit Tsk

theorem pprio (n : Int) (w : World) : Calls Try.prog 35 #[.int .i64 n] w fun e w' => e = .returned (.bool (decide (0 ≤ n ∧ n ≤ 31))) ∧ w = w' := by
  by_cases h1 : 0 ≤ n
  · by_cases h2 : n ≤ 31
    · rw [decide_eq_true (p := 0 ≤ n ∧ n ≤ 31) ⟨h1, h2⟩]
      go_enter Try.func35, Try.ntmps35
      go_wp2
      go_ret
      exact ⟨rfl, rfl⟩
    · rw [decide_eq_false (p := 0 ≤ n ∧ n ≤ 31) (fun h => h2 h.2)]
      have h4 : decide (n ≤ 31) = false := decide_eq_false h2
      go_enter Try.func35, Try.ntmps35
      go_wp2
      go_ret
      exact ⟨rfl, rfl⟩
  · rw [decide_eq_false (p := 0 ≤ n ∧ n ≤ 31) (fun h => h1 h.1)]
    have h4 : decide (0 ≤ n) = false := decide_eq_false h1
    go_enter Try.func35, Try.ntmps35
    go_wp2
    go_ret
    exact ⟨rfl, rfl⟩
theorem ptime (n : Int) (w : World) : Calls Try.prog 33 #[.int .i64 n] w fun e w' => e = .returned (.bool (decide (0 ≤ n ∧ n ≤ 1073741824))) ∧ w = w' := by
  by_cases h1 : 0 ≤ n
  · by_cases h2 : n ≤ 1073741824
    · rw [decide_eq_true (p := 0 ≤ n ∧ n ≤ 1073741824) ⟨h1, h2⟩]
      go_enter Try.func33, Try.ntmps33
      go_wp2
      go_ret
      exact ⟨rfl, rfl⟩
    · rw [decide_eq_false (p := 0 ≤ n ∧ n ≤ 1073741824) (fun h => h2 h.2)]
      have h4 : decide (n ≤ 1073741824) = false := decide_eq_false h2
      go_enter Try.func33, Try.ntmps33
      go_wp2
      go_ret
      exact ⟨rfl, rfl⟩
  · rw [decide_eq_false (p := 0 ≤ n ∧ n ≤ 1073741824) (fun h => h1 h.1)]
    have h4 : decide (0 ≤ n) = false := decide_eq_false h1
    go_enter Try.func33, Try.ntmps33
    go_wp2
    go_ret
    exact ⟨rfl, rfl⟩
set_option maxHeartbeats 1000000 in
theorem pjob (j : Jb) (w : World) : Calls Try.prog 36 #[jV j] w fun e w' => e = .returned (.bool (decide (okJ j))) ∧ Below w.heap.size w w' := by
  obtain ⟨l, c, a, d⟩ := j
  have HB := Lib.hid (show Below w.heap.size w (w.alloc (.cells #[.int .i64 l, .int .i64 c, .int .i64 a, .int .i64 d] JT)) from (Below.refl _ _).alloc (Nat.le_refl _) _)
  go_enter Try.func36, Try.ntmps36
  go_wp2_with (go_at_call 33; refine (ptime _ _).mono ?_; rintro e w1 ⟨rfl, rfl⟩)
  all_goals (go_ret; exact ⟨ret_bool (by first | exact (decide_eq_false (by rw [okJ_mk]; omega)).symm | exact (decide_eq_true (by rw [okJ_mk]; omega)).symm | (have e : okJ ⟨l, c, a, d⟩ ↔ (0 ≤ d ∧ d ≤ 1073741824) := (by rw [okJ_mk]; omega)); simp [e]), HB.out⟩)
abbrev kV (k : Ac) : Value := .agg #[.int .i64 k.g, .int .i64 k.o, .int .i64 k.n, .int .i64 k.d, .int .i64 k.c, .int .i64 k.t]
set_option maxHeartbeats 1000000 in
theorem pacc_ok (k : Ac) (w : World) (h : okA k) : Calls Try.prog 43 #[kV k] w fun e w' => e = .returned (.bool true) ∧ Below w.heap.size w w' := by
  obtain ⟨g, o, n, d, c, t⟩ := k
  have HB := Lib.hid (show Below w.heap.size w (w.alloc (.cells #[.int .i64 g, .int .i64 o, .int .i64 n, .int .i64 d, .int .i64 c, .int .i64 t] 34)) from (Below.refl _ _).alloc (Nat.le_refl _) _)
  obtain ⟨⟨⟨b0, b1⟩, rfl, rfl⟩, ⟨b2, b3⟩, ⟨b4, b5⟩, b6, b7⟩ := (okA_mk _ _ _ _ _ _).1 h
  have w1 : IntKind.i64.wrap (o - c) = o - c := IntWalk.i64_in _ (by omega)
  have w2 : IntKind.i64.wrap (d + c) = d + c := IntWalk.i64_in _ (by omega)
  have b8 : d ≤ o - c := by omega
  clear h
  go_enter Try.func43, Try.ntmps43
  go_wp2_with (go_at_call 33; refine (ptime _ _).mono ?_; rintro e w1 ⟨rfl, rfl⟩; rw [decide_eq_true (by omega)])
  go_ret
  exact ⟨rfl, HB.out⟩
set_option maxHeartbeats 2000000 in
theorem pacc_no (k : Ac) (w : World) (hc : k.c ≤ 9223372036854775807) (h : ¬ okA k) : Calls Try.prog 43 #[kV k] w fun e w' => e = .returned (.bool false) ∧ Below w.heap.size w w' := by
  obtain ⟨g, o, n, d, c, t⟩ := k
  have HB := Lib.hid (show Below w.heap.size w (w.alloc (.cells #[.int .i64 g, .int .i64 o, .int .i64 n, .int .i64 d, .int .i64 c, .int .i64 t] 34)) from (Below.refl _ _).alloc (Nat.le_refl _) _)
  rw [okA_mk] at h
  dsimp only at hc
  by_cases hg : 0 ≤ g ∧ g ≤ 1073741824
  · obtain ⟨hg0, hg1⟩ := hg
    by_cases ho : o = g
    · subst ho
      by_cases hn : n = 0
      · subst hn
        by_cases hd : d < 0
        · clear h
          go_enter Try.func43, Try.ntmps43
          go_wp2_with (go_at_call 33; refine (ptime _ _).mono ?_; rintro e w1 ⟨rfl, rfl⟩; rw [decide_eq_true (by omega)])
          go_ret
          exact ⟨rfl, HB.out⟩
        · by_cases hc0 : c < 0
          · have hd' : decide (d < 0) = false := decide_eq_false hd
            clear h
            go_enter Try.func43, Try.ntmps43
            go_wp2_with (go_at_call 33; refine (ptime _ _).mono ?_; rintro e w1 ⟨rfl, rfl⟩; rw [decide_eq_true (by omega)])
            go_ret
            exact ⟨rfl, HB.out⟩
          · by_cases ht : t < 0
            · have hd' : decide (d < 0) = false := decide_eq_false hd
              have hc' : decide (c < 0) = false := decide_eq_false hc0
              clear h
              go_enter Try.func43, Try.ntmps43
              go_wp2_with (go_at_call 33; refine (ptime _ _).mono ?_; rintro e w1 ⟨rfl, rfl⟩; rw [decide_eq_true (by omega)])
              go_ret
              exact ⟨rfl, HB.out⟩
            · have hd' : decide (d < 0) = false := decide_eq_false hd
              have hc' : decide (c < 0) = false := decide_eq_false hc0
              have ht' : decide (t < 0) = false := decide_eq_false ht
              have w1 : IntKind.i64.wrap (o - c) = o - c := IntWalk.i64_in _ (by omega)
              by_cases h5 : d ≤ o - c
              · have w2 : IntKind.i64.wrap (d + c) = d + c := IntWalk.i64_in _ (by omega)
                have h6 : decide (t ≤ d + c) = false := decide_eq_false (by omega)
                clear h
                go_enter Try.func43, Try.ntmps43
                go_wp2_with (go_at_call 33; refine (ptime _ _).mono ?_; rintro e w1 ⟨rfl, rfl⟩; rw [decide_eq_true (by omega)])
                go_ret
                exact ⟨rfl, HB.out⟩
              · have h6 : decide (d ≤ o - c) = false := decide_eq_false h5
                clear h
                go_enter Try.func43, Try.ntmps43
                go_wp2_with (go_at_call 33; refine (ptime _ _).mono ?_; rintro e w1 ⟨rfl, rfl⟩; rw [decide_eq_true (by omega)])
                go_ret
                exact ⟨rfl, HB.out⟩
      · have hn' : (n != 0) = true := by simpa using hn
        clear h
        go_enter Try.func43, Try.ntmps43
        go_wp2_with (go_at_call 33; refine (ptime _ _).mono ?_; rintro e w1 ⟨rfl, rfl⟩; rw [decide_eq_true (by omega)])
        go_ret
        exact ⟨rfl, HB.out⟩
    · have ho' : (o != g) = true := by simpa using ho
      clear h
      go_enter Try.func43, Try.ntmps43
      go_wp2_with (go_at_call 33; refine (ptime _ _).mono ?_; rintro e w1 ⟨rfl, rfl⟩; rw [decide_eq_true (by omega)])
      go_ret
      exact ⟨rfl, HB.out⟩
  · clear h
    go_enter Try.func43, Try.ntmps43
    go_wp2_with (go_at_call 33; refine (ptime _ _).mono ?_; rintro e w1 ⟨rfl, rfl⟩; rw [decide_eq_false hg])
    go_ret
    exact ⟨rfl, HB.out⟩
theorem pacc (k : Ac) (w : World) (hc : k.c ≤ 9223372036854775807) : Calls Try.prog 43 #[kV k] w fun e w' => e = .returned (.bool (decide (okA k))) ∧ Below w.heap.size w w' := by
  by_cases h : okA k
  · rw [decide_eq_true h]; exact pacc_ok k w h
  · rw [decide_eq_false h]; exact pacc_no k w hc h
theorem pnew_ok (p : Int) (w : World) (h : 0 ≤ p ∧ p ≤ 31) : Calls Try.prog 22 #[.int .i64 p] w fun e w' => e = .returned (.tuple #[tV p (.slice none 0 0) kZ, .nilIface]) ∧ Below w.heap.size w w' := by
  go_enter Try.func22, Try.ntmps22
  go_wp2_with (go_at_call 35; refine (pprio _ _).mono ?_; rintro e w1 ⟨rfl, rfl⟩; rw [decide_eq_true h])
  exact bodyPost_ret (v := .tuple #[tV p (.slice none 0 0) kZ, .nilIface]) (by simp [results, Try.results22, go_sem]) rfl ⟨rfl, (by repeat (first | exact Below.refl _ _ | (with_reducible assumption) | refine Below.drew ?_ | (refine Below.alloc ?_ (by first | exact Nat.le_refl _ | omega | (simp; done) | (simp; omega)) _) | (refine Below.setCell ?_ (by first | omega | (simp; done) | (simp; omega)) _)))⟩
theorem pnew_no (p : Int) (w : World) (h : ¬ (0 ≤ p ∧ p ≤ 31)) : Calls Try.prog 22 #[.int .i64 p] w fun e w' => e = .returned (.tuple #[zT, errV 2]) ∧ Below w.heap.size w w' := by
  go_enter Try.func22, Try.ntmps22
  go_wp2_with (go_at_call 35; refine (pprio _ _).mono ?_; rintro e w1 ⟨rfl, rfl⟩; rw [decide_eq_false h])
  exact bodyPost_ret (v := .tuple #[zT, .iface 70 (.int .i64 2)]) (by simp [results, Try.results22, go_sem]) rfl ⟨rfl, (by repeat (first | exact Below.refl _ _ | (with_reducible assumption) | refine Below.drew ?_ | (refine Below.alloc ?_ (by first | exact Nat.le_refl _ | omega | (simp; done) | (simp; omega)) _) | (refine Below.setCell ?_ (by first | omega | (simp; done) | (simp; omega)) _)))⟩
theorem pready (p : Int) (s : Option Addr) (n cap : Nat) (k : Ac) (w : World) : Calls Try.prog 31 #[tV p (.slice s n cap) k] w fun e w' => e = .returned (.bool (decide (0 < n))) ∧ Below w.heap.size w w' := by
  go_enter Try.func31, Try.ntmps31
  go_wp2
  go_ret
  exact ⟨rfl, (Below.refl _ _).alloc (Nat.le_refl _) _⟩
/-- How many ticks a job can still be given: the program says it by a minimum. -/
theorem pleft (j : Jb) (w : World) (h : okJ j) : Calls Try.prog 45 #[jV j] w fun e w' => e = .returned (.int .i64 (need j)) ∧ Below w.heap.size w w' := by
  obtain ⟨l, c, a, d⟩ := j
  obtain ⟨⟨l0, l1⟩, ⟨c0, c1⟩, _, _⟩ := (okJ_mk _ _ _ _).1 h
  by_cases hc : c = 0
  · subst hc
    have e : need ⟨l, 0, a, d⟩ = l := if_neg (by dsimp only; omega)
    rw [e]
    clear e h
    go_enter Try.func45, Try.ntmps45
    go_wp2
    go_ret
    exact ⟨rfl, (Below.refl _ _).alloc (Nat.le_refl _) _⟩
  · have hc' : (c == 0) = false := by simpa using hc
    have e : need ⟨l, c, a, d⟩ = min l c := by unfold need; dsimp only; split <;> omega
    rw [e]
    clear e h
    go_enter Try.func45, Try.ntmps45
    go_wp2
    all_goals (go_ret; exact ⟨ret_int (by omega), (Below.refl _ _).alloc (Nat.le_refl _) _⟩)
theorem pworked (j : Jb) (w : World) (h : okJ j) : Calls Try.prog 47 #[jV j] w fun e w' => e = .returned (jV (runJ j)) ∧ Below w.heap.size w w' := by
  obtain ⟨l, c, a, d⟩ := j
  obtain ⟨⟨l0, l1⟩, ⟨c0, c1⟩, _, _⟩ := (okJ_mk _ _ _ _).1 h
  have w1 : IntKind.i64.wrap (l - 1) = l - 1 := IntWalk.i64_in _ (by omega)
  have w2 : IntKind.i64.wrap (c - 1) = c - 1 := IntWalk.i64_in _ (by omega)
  by_cases hc : 0 < c
  · have e : runJ ⟨l, c, a, d⟩ = ⟨l - 1, c - 1, a, d⟩ := by unfold runJ; dsimp only; rw [if_pos hc]
    rw [e]
    clear e h
    go_enter Try.func47, Try.ntmps47
    go_wp2
    refine bodyPost_ret (v := jV ⟨l - 1, c - 1, a, d⟩) (by simp [results, Try.results47, go_sem]) rfl ⟨rfl, (by repeat (first | exact Below.refl _ _ | (with_reducible assumption) | refine Below.drew ?_ | (refine Below.alloc ?_ (by first | exact Nat.le_refl _ | omega | (simp; done) | (simp; omega)) _) | (refine Below.setCell ?_ (by first | omega | (simp; done) | (simp; omega)) _)))⟩
  · have hc' : decide (0 < c) = false := decide_eq_false hc
    have e : runJ ⟨l, c, a, d⟩ = ⟨l - 1, c, a, d⟩ := by unfold runJ; dsimp only; rw [if_neg hc]
    rw [e]
    clear e h
    go_enter Try.func47, Try.ntmps47
    go_wp2
    refine bodyPost_ret (v := jV ⟨l - 1, c, a, d⟩) (by simp [results, Try.results47, go_sem]) rfl ⟨rfl, (by repeat (first | exact Below.refl _ _ | (with_reducible assumption) | refine Below.drew ?_ | (refine Below.alloc ?_ (by first | exact Nat.le_refl _ | omega | (simp; done) | (simp; omega)) _) | (refine Below.setCell ?_ (by first | omega | (simp; done) | (simp; omega)) _)))⟩
/-- How late a job ends. -/
def lateS (j : Jb) (end_ : Int) : Int := if j.d = 0 then 0 else max 0 (end_ - j.a - j.d)
theorem plate (j : Jb) (z : Int) (w : World) (h : okJ j) (h0 : 0 ≤ z) (h1 : z ≤ 1073741824) : Calls Try.prog 49 #[jV j, .int .i64 z] w fun e w' => e = .returned (.int .i64 (lateS j z)) ∧ Below w.heap.size w w' := by
  obtain ⟨l, c, a, d⟩ := j
  obtain ⟨_, _, ⟨a0, a1⟩, ⟨d0, d1⟩⟩ := (okJ_mk _ _ _ _).1 h
  have w1 : IntKind.i64.wrap (z - a) = z - a := IntWalk.i64_in _ (by omega)
  have w2 : IntKind.i64.wrap (z - a - d) = z - a - d := IntWalk.i64_in _ (by omega)
  by_cases hd : d = 0
  · subst hd
    have e : lateS ⟨l, c, a, 0⟩ z = 0 := if_pos rfl
    rw [e]
    clear e h
    go_enter Try.func49, Try.ntmps49
    go_wp2
    go_ret
    exact ⟨rfl, (Below.refl _ _).alloc (Nat.le_refl _) _⟩
  · have hd' : (d == 0) = false := by simpa using hd
    have e : lateS ⟨l, c, a, d⟩ z = max 0 (z - a - d) := if_neg hd
    rw [e]
    clear e h
    go_enter Try.func49, Try.ntmps49
    go_wp2
    all_goals (go_ret; exact ⟨ret_int (by omega), (Below.refl _ _).alloc (Nat.le_refl _) _⟩)
/-- An account in which one more job has ended. -/
def endedK (k : Ac) (what late : Int) : Ac := ⟨k.g, k.o, k.n, if what = 1 then k.d + 1 else k.d, if what = 1 then k.c else k.c + 1, if 0 < late then k.t + 1 else k.t⟩
set_option maxHeartbeats 1000000 in
theorem pended (k : Ac) (what late : Int) (w : World) (h0 : 0 ≤ k.d ∧ k.d ≤ 1073741824) (h1 : 0 ≤ k.c ∧ k.c ≤ 1073741824) (h2 : 0 ≤ k.t ∧ k.t ≤ 2147483648) :
    Calls Try.prog 50 #[kV k, .int .i64 what, .int .i64 late] w fun e w' => e = .returned (kV (endedK k what late)) ∧ Below w.heap.size w w' := by
  obtain ⟨g, o, n, d, c, t⟩ := k
  dsimp only at h0 h1 h2
  obtain ⟨d0, d1⟩ := h0
  obtain ⟨c0, c1⟩ := h1
  obtain ⟨t0, t1⟩ := h2
  have w1 : IntKind.i64.wrap (d + 1) = d + 1 := IntWalk.i64_in _ (by omega)
  have w2 : IntKind.i64.wrap (c + 1) = c + 1 := IntWalk.i64_in _ (by omega)
  have w3 : IntKind.i64.wrap (t + 1) = t + 1 := IntWalk.i64_in _ (by omega)
  by_cases hw : what = 1
  · subst hw
    by_cases hl : 0 < late
    · have e : endedK ⟨g, o, n, d, c, t⟩ 1 late = ⟨g, o, n, d + 1, c, t + 1⟩ := by unfold endedK; simp [hl]
      rw [e]
      clear e
      go_enter Try.func50, Try.ntmps50
      go_wp2
      refine bodyPost_ret (v := kV ⟨g, o, n, d + 1, c, t + 1⟩) (by simp [results, Try.results50, go_sem]) rfl ⟨rfl, (by repeat (first | exact Below.refl _ _ | (with_reducible assumption) | refine Below.drew ?_ | (refine Below.alloc ?_ (by first | exact Nat.le_refl _ | omega | (simp; done) | (simp; omega)) _) | (refine Below.setCell ?_ (by first | omega | (simp; done) | (simp; omega)) _)))⟩
    · have hl' : decide (0 < late) = false := decide_eq_false hl
      have e : endedK ⟨g, o, n, d, c, t⟩ 1 late = ⟨g, o, n, d + 1, c, t⟩ := by unfold endedK; simp [hl]
      rw [e]
      clear e
      go_enter Try.func50, Try.ntmps50
      go_wp2
      refine bodyPost_ret (v := kV ⟨g, o, n, d + 1, c, t⟩) (by simp [results, Try.results50, go_sem]) rfl ⟨rfl, (by repeat (first | exact Below.refl _ _ | (with_reducible assumption) | refine Below.drew ?_ | (refine Below.alloc ?_ (by first | exact Nat.le_refl _ | omega | (simp; done) | (simp; omega)) _) | (refine Below.setCell ?_ (by first | omega | (simp; done) | (simp; omega)) _)))⟩
  · have hw' : (what == 1) = false := by simpa using hw
    by_cases hl : 0 < late
    · have e : endedK ⟨g, o, n, d, c, t⟩ what late = ⟨g, o, n, d, c + 1, t + 1⟩ := by unfold endedK; simp [hl, hw]
      rw [e]
      clear e
      go_enter Try.func50, Try.ntmps50
      go_wp2
      refine bodyPost_ret (v := kV ⟨g, o, n, d, c + 1, t + 1⟩) (by simp [results, Try.results50, go_sem]) rfl ⟨rfl, (by repeat (first | exact Below.refl _ _ | (with_reducible assumption) | refine Below.drew ?_ | (refine Below.alloc ?_ (by first | exact Nat.le_refl _ | omega | (simp; done) | (simp; omega)) _) | (refine Below.setCell ?_ (by first | omega | (simp; done) | (simp; omega)) _)))⟩
    · have hl' : decide (0 < late) = false := decide_eq_false hl
      have e : endedK ⟨g, o, n, d, c, t⟩ what late = ⟨g, o, n, d, c + 1, t⟩ := by unfold endedK; simp [hl, hw]
      rw [e]
      clear e
      go_enter Try.func50, Try.ntmps50
      go_wp2
      refine bodyPost_ret (v := kV ⟨g, o, n, d, c + 1, t⟩) (by simp [results, Try.results50, go_sem]) rfl ⟨rfl, (by repeat (first | exact Below.refl _ _ | (with_reducible assumption) | refine Below.drew ?_ | (refine Below.alloc ?_ (by first | exact Nat.le_refl _ | omega | (simp; done) | (simp; omega)) _) | (refine Below.setCell ?_ (by first | omega | (simp; done) | (simp; omega)) _)))⟩
end Go.Proofs.Ythbkinopgialmaa
/- The program's task: Valid; no condition but those that each row names. -/
namespace Go.Proofs.Ythbkinopgialmaa
open Go.RowKit Tsk

theorem ret_err {a b : Int} (h : a = b) : Ending.returned (errV a) = .returned (errV b) := by rw [h]
set_option maxHeartbeats 1000000 in
theorem pvalid (p : Int) (s : Value) (n : Nat) (f : Nat → Jb) (k : Ac) (w : World) (h : Jobs w s n f) (hc : k.c ≤ 9223372036854775807) : Calls Try.prog 32 #[tV p s k] w fun e w' => e = .returned (errV (validE p n f k)) ∧ Below w.heap.size w w' := by
  have HJ := Lib.hid h
  have HK := Lib.hid (fun w => pacc k w hc)
  obtain ⟨q, cap, rfl, hn, _⟩ := h
  obtain ⟨kg, ko, kn, kd, kc, kt⟩ := k
  clear hc
  obtain ⟨WA, hWA⟩ : ∃ WA, WA = w.alloc (.cells #[.int .i64 p, .slice q n cap, .int .i64 kg, .int .i64 ko, .int .i64 kn, .int .i64 kd, .int .i64 kc, .int .i64 kt] KT) := ⟨_, rfl⟩
  have HB := Lib.hid (show Below w.heap.size w WA from by rw [hWA]; exact (Below.refl _ _).alloc (Nat.le_refl _) _)
  have HT := Lib.hid (show HasT WA w.heap.size p (.slice q n cap) ⟨kg, ko, kn, kd, kc, kt⟩ from by rw [hWA]; exact has_new w _ _ rfl)
  have HW := Lib.hid hWA
  have hsz : w.heap.size < WA.heap.size := by rw [hWA]; simp
  clear hWA
  by_cases hp : 0 ≤ p ∧ p ≤ 31
  · by_cases hn8 : n ≤ 8
    · have hn8' : (n : Int) ≤ 8 := by omega
      have hn8b : decide ((8 : Int) < (n : Int)) = false := decide_eq_false (by omega)
      have hn8c : decide (8 < n) = false := decide_eq_false (by omega)
      by_cases ha : okA ⟨kg, ko, kn, kd, kc, kt⟩
      · rw [decide_eq_true ha] at HK
        go_enter Try.func32, Try.ntmps32
        go_wp2_with (go_at_call 35; refine (pprio _ _).mono ?_; rintro e w1 ⟨rfl, rfl⟩; rw [decide_eq_true hp])
        rw [← HW.out]
        obtain ⟨x0, x1, x2, x3, x4, x5, x6, x7⟩ := HT.out.cells
        go_wp2_with fail
        refine (HK.out WA).mono ?_
        rintro e w2 ⟨rfl, hb2⟩
        have HB2 := Lib.hid (bnext HB.out hb2)
        have HT2 := Lib.hid (HT.out.below hb2)
        have HJ2 := Lib.hid (HJ.out.below (bnext HB.out hb2))
        clear hb2 x0 x1 x2 x3 x4 x5 x6 x7
        obtain ⟨x0, x1, x2, x3, x4, x5, x6, x7⟩ := HT2.out.cells
        go_wp2_with fail
        clear x0 x1 x2 x3 x4 x5 x6 x7
        go_loopw [25] (fun iv wr => ∃ i : Nat, iv = .int .i64 i ∧ i ≤ n ∧ Hid (∀ j, j < i → okJ (f j)) ∧ Hid (Below w2.heap.size w2 wr)) (fun iv _ => n - (intOf iv).toNat)
        case atStart => exact ⟨0, rfl, Nat.zero_le _, Lib.hid (fun j hj => by omega), Lib.hid (Below.refl _ _)⟩
        case round =>
          obtain ⟨i, rfl, hi, HO, HBr⟩ := hrel
          by_cases hin : i < n
          · have hin' : (i : Int) < (n : Int) := by omega
            obtain ⟨q', cap', e, _, hcl⟩ := HJ2.out.below HBr.out
            cases e
            obtain ⟨b, off, rfl, d0, d1, d2, d3⟩ := hcl i hin
            clear hcl
            have HRJ := Lib.hid (pjob (f i))
            by_cases hok : okJ (f i)
            · have HO2 := Lib.hid (show ∀ j, j < i + 1 → okJ (f j) from fun j hj => by
                rcases Nat.lt_succ_iff_lt_or_eq.1 hj with h | h
                · exact HO.out j h
                · rw [h]; exact hok)
              rw [decide_eq_true hok] at HRJ
              generalize f i = jb at *
              obtain ⟨jl, jc, ja, jd⟩ := jb
              clear hok
              have HBa := Lib.hid (HBr.out.alloc HBr.out.size (.cells #[.int .i64 jl, .int .i64 jc, .int .i64 ja, .int .i64 jd] JT))
              go_wp2_with fail
              refine (HRJ.out _).mono ?_
              rintro e w3 ⟨rfl, hb3⟩
              have HB3 := Lib.hid (bnext HBa.out hb3)
              clear hb3
              go_wp2_with fail
              go_roundw
              case rel => exact ⟨i + 1, by go_num, by omega, HO2, HB3⟩
              case measure => simp [intOf]; omega
            · have hE := ok_no (p := p) (n := n) (f := f) (k := ⟨kg, ko, kn, kd, kc, kt⟩) (fun h => hok (h.2.2.1 i hin))
              have HE := Lib.hid hE
              rw [decide_eq_false hok] at HRJ
              generalize f i = jb at *
              obtain ⟨jl, jc, ja, jd⟩ := jb
              clear hok hE
              have HBa := Lib.hid (HBr.out.alloc HBr.out.size (.cells #[.int .i64 jl, .int .i64 jc, .int .i64 ja, .int .i64 jd] JT))
              go_wp2_with fail
              refine (HRJ.out _).mono ?_
              rintro e w3 ⟨rfl, hb3⟩
              have HB3 := Lib.hid (bnext HB2.out (bnext HBa.out hb3))
              clear hb3
              go_wp2_with fail
              go_ret
              exact ⟨ret_err HE.out.symm, HB3.out⟩
          · have hg3 : decide (i < n) = false := decide_eq_false hin
            have HV := Lib.hid (show validE p n f ⟨kg, ko, kn, kd, kc, kt⟩ = 0 from if_pos ⟨hp, hn8, fun j hj => HO.out j (by omega), ha⟩)
            have HB3 := Lib.hid (bnext HB2.out HBr.out)
            clear hin
            go_wp2_with fail
            go_ret
            exact ⟨ret_err HV.out.symm, HB3.out⟩
      · have HV := Lib.hid (show validE p n f ⟨kg, ko, kn, kd, kc, kt⟩ = 270 from if_neg fun h => ha h.2.2.2)
        rw [decide_eq_false ha] at HK
        clear ha
        go_enter Try.func32, Try.ntmps32
        go_wp2_with (go_at_call 35; refine (pprio _ _).mono ?_; rintro e w1 ⟨rfl, rfl⟩; rw [decide_eq_true hp])
        rw [← HW.out]
        obtain ⟨x0, x1, x2, x3, x4, x5, x6, x7⟩ := HT.out.cells
        go_wp2_with fail
        refine (HK.out WA).mono ?_
        rintro e w2 ⟨rfl, hb2⟩
        have HB2 := Lib.hid (bnext HB.out hb2)
        clear hb2 x0 x1 x2 x3 x4 x5 x6 x7
        go_wp2_with fail
        go_ret
        exact ⟨ret_err HV.out.symm, HB2.out⟩
    · have hE := ok_no (p := p) (n := n) (f := f) (k := ⟨kg, ko, kn, kd, kc, kt⟩) (fun h => hn8 h.2.1)
      rw [hE]
      have hn8' : (8 : Int) < (n : Int) := by omega
      clear hE hn8
      go_enter Try.func32, Try.ntmps32
      go_wp2_with (go_at_call 35; refine (pprio _ _).mono ?_; rintro e w1 ⟨rfl, rfl⟩; rw [decide_eq_true hp])
      rw [← HW.out]
      go_ret
      exact ⟨rfl, HB.out⟩
  · have hE := ok_no (p := p) (n := n) (f := f) (k := ⟨kg, ko, kn, kd, kc, kt⟩) (fun h => hp h.1)
    rw [hE]
    clear hE
    go_enter Try.func32, Try.ntmps32
    go_wp2_with (go_at_call 35; refine (pprio _ _).mono ?_; rintro e w1 ⟨rfl, rfl⟩; rw [decide_eq_false hp])
    rw [← HW.out]
    go_ret
    exact ⟨rfl, HB.out⟩
end Go.Proofs.Ythbkinopgialmaa
/- The program's task: jobs as a queue; no condition but those that each row names. -/
namespace Go.Proofs.Ythbkinopgialmaa
open Go.RowKit Go.Shelf Tsk

theorem upd_id (f : Nat → Jb) (i : Nat) : upd f i (f i) = f := by
  funext j
  by_cases e : j = i
  · rw [e, upd_same]
  · rw [upd_ne _ e]
set_option maxHeartbeats 1000000 in
theorem pqueue (s : Value) (n : Nat) (f : Nat → Jb) (w : World) (h : Jobs w s n f) (hn8 : n ≤ 8) : Calls Try.prog 37 #[s] w fun e w' => ∃ b s', e = .returned (.pointer (some ⟨b, 0, none⟩)) ∧ QJ w b s' n f n w' := by
  have HJ := Lib.hid h
  obtain ⟨q, cap, rfl, hn, _⟩ := h
  go_enter Try.func37, Try.ntmps37
  go_wp2_with fail
  refine (qnew w).mono ?_
  rintro e w2 ⟨rfl, hq⟩
  have HQ := Lib.hid (hq.congr (g := f) (fun i hi => by omega))
  clear hq
  go_wp2_with fail
  go_loopw [13] (fun iv wr => ∃ i : Nat, iv = .int .i64 i ∧ i ≤ n ∧ ∃ s', Hid (QJ w w.heap.size s' i f i wr)) (fun iv _ => n - (intOf iv).toNat)
  case atStart => exact ⟨0, rfl, Nat.zero_le _, _, HQ⟩
  case round =>
    obtain ⟨i, rfl, hi, s', HQr⟩ := hrel
    by_cases hin : i < n
    · have hin' : (i : Int) < (n : Int) := by omega
      obtain ⟨q', cap', e, _, hcl⟩ := HJ.out.below HQr.out.below
      cases e
      obtain ⟨b, off, rfl, d0, d1, d2, d3⟩ := hcl i hin
      clear hcl
      have HP := Lib.hid (fun w3 (hb : Below wr.heap.size wr w3) => (qpush w w3 w.heap.size i s' f i (HQr.out.turn hb) (f i) (by omega) (by omega)).mono (R' := fun e w' => e = .returned .nilIface ∧ ∃ s'', QJ w w.heap.size s'' (i + 1) f ((i : Int) + 1) w') (fun e w' ⟨he, s'', hq⟩ => ⟨he, s'', hq.congr fun j _ => by rw [upd_id]⟩))
      generalize f i = jb at *
      obtain ⟨jl, jc, ja, jd⟩ := jb
      have HBa := Lib.hid ((Below.refl wr.heap.size wr).alloc (Nat.le_refl _) (.cells #[.int .i64 jl, .int .i64 jc, .int .i64 ja, .int .i64 jd] JT))
      go_wp2_with fail
      refine (HP.out _ HBa.out).mono ?_
      rintro e w3 ⟨rfl, s'', hq⟩
      have HQ3 := Lib.hid hq
      clear hq
      go_wp2_with fail
      go_roundw
      case rel => exact ⟨i + 1, by go_num, by omega, s'', HQ3⟩
      case measure => simp [intOf]; omega
    · have hg3 : decide (i < n) = false := decide_eq_false hin
      obtain rfl : i = n := by omega
      clear hin
      go_wp2_with fail
      go_ret
      exact ⟨_, _, rfl, HQr.out⟩
end Go.Proofs.Ythbkinopgialmaa
/- The program's task: Push; no condition but those that each row names. -/
namespace Go.Proofs.Ythbkinopgialmaa
open Go.RowKit Go.Shelf Tsk

theorem okT_c {p : Int} {n : Nat} {f : Nat → Jb} {k : Ac} (hv : okT p n f k) : k.c ≤ 9223372036854775807 := by
  have h1 := hv.2.2.2.2.2.1
  have h2 := hv.2.2.2.1.1.2
  have h3 := hv.2.2.2.2.1.1
  omega
theorem arrJ2 (u0 u1 u2 u3 v : Value) : #[u0, u1, u2, u3].setIfInBounds 2 v = #[u0, u1, v, u3] := by rw [← Array.toList_inj, Array.toList_setIfInBounds]; rfl
theorem HasJ.set2 {W : World} {g : Nat} {j : Jb} (h : HasJ W g j) (x : Int) : HasJ (W.setCell ⟨g, 2, none⟩ (.int .i64 x)) g ⟨j.l, j.c, x, j.d⟩ := by have a := has_set h 2 (.int .i64 x); rwa [arrJ2] at a
/-- The blocks that the program's Push works on. -/
structure PS (w : World) (p : Int) (sv : Value) (k : Ac) (j : Jb) (wx : World) : Prop where
  t : HasT wx w.heap.size p sv k
  j : HasJ wx (w.heap.size + 1) j
  r : HasT wx (w.heap.size + 1 + 1) 0 (.slice none 0 0) kZ
  below : Below w.heap.size w wx
  sz : w.heap.size + 3 ≤ wx.heap.size
theorem PS.turn {w wx w' : World} {p : Int} {sv : Value} {k : Ac} {j : Jb} (h : PS w p sv k j wx) (hb : Below wx.heap.size wx w') : PS w p sv k j w' := ⟨h.t.below hb, h.j.below hb, h.r.below hb, bnext h.below hb, Nat.le_trans h.sz hb.size⟩
theorem PS.start (w : World) (p : Int) (sv : Value) (k : Ac) (j : Jb) : PS w p sv k j (((w.alloc (.cells #[.int .i64 p, sv, .int .i64 k.g, .int .i64 k.o, .int .i64 k.n, .int .i64 k.d, .int .i64 k.c, .int .i64 k.t] KT)).alloc (.cells #[.int .i64 j.l, .int .i64 j.c, .int .i64 j.a, .int .i64 j.d] JT)).alloc (.cells #[.int .i64 0, .slice none 0 0, .int .i64 0, .int .i64 0, .int .i64 0, .int .i64 0, .int .i64 0, .int .i64 0] KT)) :=
  ⟨has_old (has_old (has_new w _ _ rfl) _) _, has_old (has_new _ _ _ (by simp)) _, has_new _ _ _ (by simp), (((Below.refl _ _).alloc (Nat.le_refl _) _).alloc (by simp) _).alloc (by simp; omega) _, by simp⟩
theorem PS.at2 {w wx : World} {p : Int} {sv : Value} {k : Ac} {j : Jb} (h : PS w p sv k j wx) (x : Int) : PS w p sv k ⟨j.l, j.c, x, j.d⟩ (wx.setCell ⟨w.heap.size + 1, 2, none⟩ (.int .i64 x)) :=
  ⟨h.t.other _ _ (by show w.heap.size + 1 ≠ w.heap.size; omega), h.j.set2 x, h.r.other _ _ (by show w.heap.size + 1 ≠ w.heap.size + 1 + 1; omega), below_low h.below _ _ (by show w.heap.size ≤ w.heap.size + 1; omega), by simpa [World.setCell] using h.sz⟩
set_option maxHeartbeats 1000000 in
set_option maxRecDepth 100000 in
theorem ppush_state (p : Int) (s : Value) (n : Nat) (f : Nat → Jb) (k : Ac) (j : Jb) (now : Int) (w : World) (h : Jobs w s n f) (hc : k.c ≤ 9223372036854775807) (hv : ¬ okT p n f k) :
    Calls Try.prog 25 #[tV p s k, jV j, .int .i64 now] w fun e w' => e = .returned (.tuple #[zT, errV 270]) ∧ Below w.heap.size w w' := by
  have HV := Lib.hid (fun w (h : Jobs w s n f) => pvalid p s n f k w h hc)
  rw [ok_no hv, errV_ne (by decide)] at HV
  have HJ := Lib.hid h
  obtain ⟨q, cap, rfl, _, _⟩ := h
  obtain ⟨kg, ko, kn, kd, kc, kt⟩ := k
  obtain ⟨l, c, a, d⟩ := j
  obtain ⟨WA, hWA⟩ : ∃ WA, WA = ((w.alloc (.cells #[.int .i64 p, .slice q n cap, .int .i64 kg, .int .i64 ko, .int .i64 kn, .int .i64 kd, .int .i64 kc, .int .i64 kt] KT)).alloc (.cells #[.int .i64 l, .int .i64 c, .int .i64 a, .int .i64 d] JT)).alloc (.cells #[.int .i64 0, .slice none 0 0, .int .i64 0, .int .i64 0, .int .i64 0, .int .i64 0, .int .i64 0, .int .i64 0] KT) := ⟨_, rfl⟩
  have HS := Lib.hid (show PS w p (.slice q n cap) ⟨kg, ko, kn, kd, kc, kt⟩ ⟨l, c, a, d⟩ WA from by rw [hWA]; exact PS.start w p (.slice q n cap) ⟨kg, ko, kn, kd, kc, kt⟩ ⟨l, c, a, d⟩)
  have HW := Lib.hid hWA
  clear hWA
  clear hv hc
  go_enter Try.func25, Try.ntmps25
  go_wp2_with fail
  rw [← HW.out]
  refine (HV.out _ (HJ.out.below HS.out.below)).mono ?_
  rintro e w1 ⟨rfl, hb1⟩
  have H1 := Lib.hid (HS.out.turn hb1)
  obtain ⟨y0, y1, y2, y3, y4, y5, y6, y7⟩ := H1.out.r.cells
  have yf := fun j => has_free H1.out.r j
  clear hb1 HS
  go_wp2_with fail
  refine bodyPost_ret (v := .tuple #[zT, .iface 70 (.int .i64 270)]) (by simp [results, Try.results25, go_sem, y0, y1, y2, y3, y4, y5, y6, y7]) rfl ⟨rfl, ?_⟩
  repeat (first | (with_reducible exact H1.out.below) | refine below_low ?_ _ _ (by first | (simp; done) | (simp; omega)))
set_option maxHeartbeats 1000000 in
set_option maxRecDepth 100000 in
theorem ppush_arg (p : Int) (s : Value) (n : Nat) (f : Nat → Jb) (k : Ac) (j : Jb) (now : Int) (w : World) (h : Jobs w s n f) (hv : okT p n f k) (hn : ¬ (0 ≤ now ∧ now ≤ 1073741824)) :
    Calls Try.prog 25 #[tV p s k, jV j, .int .i64 now] w fun e w' => e = .returned (.tuple #[zT, errV 1]) ∧ Below w.heap.size w w' := by
  have HV := Lib.hid (fun w (h : Jobs w s n f) => pvalid p s n f k w h (okT_c hv))
  rw [ok_yes hv, errV_0] at HV
  have HJ := Lib.hid h
  obtain ⟨q, cap, rfl, _, _⟩ := h
  obtain ⟨kg, ko, kn, kd, kc, kt⟩ := k
  obtain ⟨l, c, a, d⟩ := j
  obtain ⟨WA, hWA⟩ : ∃ WA, WA = ((w.alloc (.cells #[.int .i64 p, .slice q n cap, .int .i64 kg, .int .i64 ko, .int .i64 kn, .int .i64 kd, .int .i64 kc, .int .i64 kt] KT)).alloc (.cells #[.int .i64 l, .int .i64 c, .int .i64 a, .int .i64 d] JT)).alloc (.cells #[.int .i64 0, .slice none 0 0, .int .i64 0, .int .i64 0, .int .i64 0, .int .i64 0, .int .i64 0, .int .i64 0] KT) := ⟨_, rfl⟩
  have HS := Lib.hid (show PS w p (.slice q n cap) ⟨kg, ko, kn, kd, kc, kt⟩ ⟨l, c, a, d⟩ WA from by rw [hWA]; exact PS.start w p (.slice q n cap) ⟨kg, ko, kn, kd, kc, kt⟩ ⟨l, c, a, d⟩)
  have HW := Lib.hid hWA
  clear hWA
  clear hv
  go_enter Try.func25, Try.ntmps25
  go_wp2_with fail
  rw [← HW.out]
  refine (HV.out _ (HJ.out.below HS.out.below)).mono ?_
  rintro e w1 ⟨rfl, hb1⟩
  have H1 := Lib.hid (HS.out.turn hb1)
  obtain ⟨y0, y1, y2, y3, y4, y5, y6, y7⟩ := H1.out.r.cells
  have yf := fun j => has_free H1.out.r j
  clear hb1 HS
  go_wp2_with (go_at_call 33; refine (ptime _ _).mono ?_; rintro e w1 ⟨rfl, rfl⟩; rw [decide_eq_false hn])
  refine bodyPost_ret (v := .tuple #[zT, .iface 70 (.int .i64 1)]) (by simp [results, Try.results25, go_sem, y0, y1, y2, y3, y4, y5, y6, y7]) rfl ⟨rfl, ?_⟩
  repeat (first | (with_reducible exact H1.out.below) | refine below_low ?_ _ _ (by first | (simp; done) | (simp; omega)))
set_option maxHeartbeats 1000000 in
set_option maxRecDepth 100000 in
theorem ppush_range (p : Int) (s : Value) (n : Nat) (f : Nat → Jb) (k : Ac) (j : Jb) (now : Int) (w : World) (h : Jobs w s n f) (hv : okT p n f k) (hn : 0 ≤ now ∧ now ≤ 1073741824) (hj : ¬ okJ ⟨j.l, j.c, now, j.d⟩) :
    Calls Try.prog 25 #[tV p s k, jV j, .int .i64 now] w fun e w' => e = .returned (.tuple #[zT, errV 2]) ∧ Below w.heap.size w w' := by
  have HV := Lib.hid (fun w (h : Jobs w s n f) => pvalid p s n f k w h (okT_c hv))
  rw [ok_yes hv, errV_0] at HV
  have HO := Lib.hid (pjob ⟨j.l, j.c, now, j.d⟩)
  rw [decide_eq_false hj] at HO
  have HJ := Lib.hid h
  obtain ⟨q, cap, rfl, _, _⟩ := h
  obtain ⟨kg, ko, kn, kd, kc, kt⟩ := k
  obtain ⟨l, c, a, d⟩ := j
  obtain ⟨WA, hWA⟩ : ∃ WA, WA = ((w.alloc (.cells #[.int .i64 p, .slice q n cap, .int .i64 kg, .int .i64 ko, .int .i64 kn, .int .i64 kd, .int .i64 kc, .int .i64 kt] KT)).alloc (.cells #[.int .i64 l, .int .i64 c, .int .i64 a, .int .i64 d] JT)).alloc (.cells #[.int .i64 0, .slice none 0 0, .int .i64 0, .int .i64 0, .int .i64 0, .int .i64 0, .int .i64 0, .int .i64 0] KT) := ⟨_, rfl⟩
  have HS := Lib.hid (show PS w p (.slice q n cap) ⟨kg, ko, kn, kd, kc, kt⟩ ⟨l, c, a, d⟩ WA from by rw [hWA]; exact PS.start w p (.slice q n cap) ⟨kg, ko, kn, kd, kc, kt⟩ ⟨l, c, a, d⟩)
  have HW := Lib.hid hWA
  clear hWA
  clear hv hj
  go_enter Try.func25, Try.ntmps25
  go_wp2_with fail
  rw [← HW.out]
  refine (HV.out _ (HJ.out.below HS.out.below)).mono ?_
  rintro e w1 ⟨rfl, hb1⟩
  have H1 := Lib.hid (HS.out.turn hb1)
  have H2 := Lib.hid (H1.out.at2 now)
  obtain ⟨j0, j1, j2, j3⟩ := H1.out.j.cells
  have jf := fun j => has_free H1.out.j j
  clear hb1 HS
  go_wp2_with (go_at_call 33; refine (ptime _ _).mono ?_; rintro e w1 ⟨rfl, rfl⟩; rw [decide_eq_true hn])
  refine (HO.out _).mono ?_
  rintro e w3 ⟨rfl, hb3⟩
  have H3 := Lib.hid (H2.out.turn hb3)
  obtain ⟨y0, y1, y2, y3, y4, y5, y6, y7⟩ := H3.out.r.cells
  have yf := fun j => has_free H3.out.r j
  clear hb3
  go_wp2_with fail
  refine bodyPost_ret (v := .tuple #[zT, .iface 70 (.int .i64 2)]) (by simp [results, Try.results25, go_sem, y0, y1, y2, y3, y4, y5, y6, y7]) rfl ⟨rfl, ?_⟩
  repeat (first | (with_reducible exact H3.out.below) | refine below_low ?_ _ _ (by first | (simp; done) | (simp; omega)))
set_option maxHeartbeats 1000000 in
set_option maxRecDepth 100000 in
theorem ppush_full (p : Int) (s : Value) (n : Nat) (f : Nat → Jb) (k : Ac) (j : Jb) (now : Int) (w : World) (h : Jobs w s n f) (hv : okT p n f k) (hn : 0 ≤ now ∧ now ≤ 1073741824) (hj : okJ ⟨j.l, j.c, now, j.d⟩) (h8 : n = 8) :
    Calls Try.prog 25 #[tV p s k, jV j, .int .i64 now] w fun e w' => e = .returned (.tuple #[zT, errV 40]) ∧ Below w.heap.size w w' := by
  have HV := Lib.hid (fun w (h : Jobs w s n f) => pvalid p s n f k w h (okT_c hv))
  rw [ok_yes hv, errV_0] at HV
  have HO := Lib.hid (pjob ⟨j.l, j.c, now, j.d⟩)
  rw [decide_eq_true hj] at HO
  have HJ := Lib.hid h
  have HQ := Lib.hid (fun w (h : Jobs w s n f) => pqueue s n f w h (by omega))
  obtain ⟨q, cap, rfl, _, _⟩ := h
  obtain ⟨kg, ko, kn, kd, kc, kt⟩ := k
  obtain ⟨l, c, a, d⟩ := j
  obtain ⟨WA, hWA⟩ : ∃ WA, WA = ((w.alloc (.cells #[.int .i64 p, .slice q n cap, .int .i64 kg, .int .i64 ko, .int .i64 kn, .int .i64 kd, .int .i64 kc, .int .i64 kt] KT)).alloc (.cells #[.int .i64 l, .int .i64 c, .int .i64 a, .int .i64 d] JT)).alloc (.cells #[.int .i64 0, .slice none 0 0, .int .i64 0, .int .i64 0, .int .i64 0, .int .i64 0, .int .i64 0, .int .i64 0] KT) := ⟨_, rfl⟩
  have HS := Lib.hid (show PS w p (.slice q n cap) ⟨kg, ko, kn, kd, kc, kt⟩ ⟨l, c, a, d⟩ WA from by rw [hWA]; exact PS.start w p (.slice q n cap) ⟨kg, ko, kn, kd, kc, kt⟩ ⟨l, c, a, d⟩)
  have HW := Lib.hid hWA
  clear hWA
  clear hv hj
  replace h8 := Lib.hid h8
  go_enter Try.func25, Try.ntmps25
  go_wp2_with fail
  rw [← HW.out]
  refine (HV.out _ (HJ.out.below HS.out.below)).mono ?_
  rintro e w1 ⟨rfl, hb1⟩
  have H1 := Lib.hid (HS.out.turn hb1)
  have H2 := Lib.hid (H1.out.at2 now)
  obtain ⟨j0, j1, j2, j3⟩ := H1.out.j.cells
  have jf := fun j => has_free H1.out.j j
  clear hb1 HS
  go_wp2_with (go_at_call 33; refine (ptime _ _).mono ?_; rintro e w1 ⟨rfl, rfl⟩; rw [decide_eq_true hn])
  refine (HO.out _).mono ?_
  rintro e w3 ⟨rfl, hb3⟩
  have H3 := Lib.hid (H2.out.turn hb3)
  obtain ⟨x0, x1, x2, x3, x4, x5, x6, x7⟩ := H3.out.t.cells
  clear hb3 H2 H1
  go_wp2_with fail
  refine (HQ.out _ (HJ.out.below H3.out.below)).mono ?_
  rintro e w4 ⟨b, s4, rfl, hq4⟩
  have H4 := Lib.hid (H3.out.turn hq4.below)
  have HQ4 := Lib.hid (fun x => qpush_full _ _ _ _ _ _ _ hq4 x (by have := h8.out; omega))
  rw [errV_ne (by decide)] at HQ4
  obtain ⟨z0, z1, z2, z3⟩ := H4.out.j.cells
  clear hq4 x0 x1 x2 x3 x4 x5 x6 x7 H3
  go_wp2_with fail
  refine (HQ4.out ⟨l, c, now, d⟩).mono ?_
  rintro e w5 ⟨rfl, hb5⟩
  have H5 := Lib.hid (H4.out.turn hb5)
  obtain ⟨y0, y1, y2, y3, y4, y5, y6, y7⟩ := H5.out.r.cells
  have yf := fun j => has_free H5.out.r j
  clear hb5
  go_wp2_with fail
  refine bodyPost_ret (v := .tuple #[zT, .iface 70 (.int .i64 40)]) (by simp [results, Try.results25, go_sem, y0, y1, y2, y3, y4, y5, y6, y7]) rfl ⟨rfl, ?_⟩
  repeat (first | (with_reducible exact H5.out.below) | refine below_low ?_ _ _ (by first | (simp; done) | (simp; omega)))
set_option maxHeartbeats 1000000 in
set_option maxRecDepth 100000 in
theorem ppush_ok (p : Int) (s : Value) (n : Nat) (f : Nat → Jb) (k : Ac) (j : Jb) (now : Int) (w : World) (h : Jobs w s n f) (hv : okT p n f k) (hn : 0 ≤ now ∧ now ≤ 1073741824) (hj : okJ ⟨j.l, j.c, now, j.d⟩) (h8 : n < 8) :
    Calls Try.prog 25 #[tV p s k, jV j, .int .i64 now] w fun e w' => ∃ x, e = .returned (.tuple #[x, errV 0]) ∧ TaskO w p (n + 1) (upd f n ⟨j.l, j.c, now, j.d⟩) k x w' := by
  have HV := Lib.hid (fun w (h : Jobs w s n f) => pvalid p s n f k w h (okT_c hv))
  rw [ok_yes hv, errV_0] at HV
  have HO := Lib.hid (pjob ⟨j.l, j.c, now, j.d⟩)
  rw [decide_eq_true hj] at HO
  have HJ := Lib.hid h
  have HQ := Lib.hid (fun w (h : Jobs w s n f) => pqueue s n f w h (by omega))
  obtain ⟨q, cap, rfl, _, _⟩ := h
  obtain ⟨kg, ko, kn, kd, kc, kt⟩ := k
  obtain ⟨l, c, a, d⟩ := j
  obtain ⟨WA, hWA⟩ : ∃ WA, WA = ((w.alloc (.cells #[.int .i64 p, .slice q n cap, .int .i64 kg, .int .i64 ko, .int .i64 kn, .int .i64 kd, .int .i64 kc, .int .i64 kt] KT)).alloc (.cells #[.int .i64 l, .int .i64 c, .int .i64 a, .int .i64 d] JT)).alloc (.cells #[.int .i64 0, .slice none 0 0, .int .i64 0, .int .i64 0, .int .i64 0, .int .i64 0, .int .i64 0, .int .i64 0] KT) := ⟨_, rfl⟩
  have HS := Lib.hid (show PS w p (.slice q n cap) ⟨kg, ko, kn, kd, kc, kt⟩ ⟨l, c, a, d⟩ WA from by rw [hWA]; exact PS.start w p (.slice q n cap) ⟨kg, ko, kn, kd, kc, kt⟩ ⟨l, c, a, d⟩)
  have HW := Lib.hid hWA
  clear hWA
  clear hv hj
  go_enter Try.func25, Try.ntmps25
  go_wp2_with fail
  rw [← HW.out]
  refine (HV.out _ (HJ.out.below HS.out.below)).mono ?_
  rintro e w1 ⟨rfl, hb1⟩
  have H1 := Lib.hid (HS.out.turn hb1)
  have H2 := Lib.hid (H1.out.at2 now)
  obtain ⟨j0, j1, j2, j3⟩ := H1.out.j.cells
  have jf := fun j => has_free H1.out.j j
  clear hb1 HS
  go_wp2_with (go_at_call 33; refine (ptime _ _).mono ?_; rintro e w1 ⟨rfl, rfl⟩; rw [decide_eq_true hn])
  refine (HO.out _).mono ?_
  rintro e w3 ⟨rfl, hb3⟩
  have H3 := Lib.hid (H2.out.turn hb3)
  obtain ⟨x0, x1, x2, x3, x4, x5, x6, x7⟩ := H3.out.t.cells
  clear hb3 H2 H1
  go_wp2_with fail
  refine (HQ.out _ (HJ.out.below H3.out.below)).mono ?_
  rintro e w4 ⟨b, s4, rfl, hq4⟩
  have H4 := Lib.hid (H3.out.turn hq4.below)
  have HQ4 := Lib.hid (fun x => qpush _ _ _ _ _ _ _ hq4 x h8 (by omega))
  obtain ⟨z0, z1, z2, z3⟩ := H4.out.j.cells
  have H3' := Lib.hid H3.out
  clear hq4 x0 x1 x2 x3 x4 x5 x6 x7 H3
  go_wp2_with fail
  refine (HQ4.out ⟨l, c, now, d⟩).mono ?_
  rintro e w5 ⟨rfl, s5, hq5⟩
  have H5 := Lib.hid (H3'.out.turn hq5.below)
  have HL5 := Lib.hid (qlist _ _ _ _ _ _ _ hq5)
  obtain ⟨x0, x1, x2, x3, x4, x5, x6, x7⟩ := H5.out.t.cells
  clear hq5
  go_wp2_with fail
  refine HL5.out.mono ?_
  rintro e w6 ⟨p6, c6, rfl, ho6, hb6⟩
  have H6 := Lib.hid (H5.out.turn hb6)
  have HO6 := Lib.hid ho6
  obtain ⟨y0, y1, y2, y3, y4, y5, y6, y7⟩ := H6.out.r.cells
  have yf := fun j => has_free H6.out.r j
  clear x0 x1 x2 x3 x4 x5 x6 x7
  obtain ⟨x0, x1, x2, x3, x4, x5, x6, x7⟩ := H6.out.t.cells
  have xf := fun j => has_free H6.out.t j
  have hs5 := H5.out.sz
  clear hb6 ho6
  go_wp2_with fail
  refine bodyPost_ret (v := .tuple #[tV p (.slice p6 (n + 1) c6) ⟨kg, ko, kn, kd, kc, kt⟩, .nilIface]) (by simp [results, Try.results25, go_sem, y0, y1, y2, y3, y4, y5, y6, y7]) rfl ⟨_, rfl, p6, c6, rfl, ?_, ?_⟩
  · refine own_base2 (B := w5.heap.size) ?_ (by omega)
    repeat (first | (with_reducible exact HO6.out) | refine own_low ?_ _ _ (by first | (simp; done) | (simp; omega)))
  · repeat (first | (with_reducible exact H6.out.below) | refine below_low ?_ _ _ (by first | (simp; done) | (simp; omega)))
/-- Push, every way. -/
theorem ppush_any (p : Int) (s : Value) (n : Nat) (f : Nat → Jb) (k : Ac) (j : Jb) (now : Int) (w : World) (h : Jobs w s n f) (hc : k.c ≤ 9223372036854775807) :
    Calls Try.prog 25 #[tV p s k, jV j, .int .i64 now] w fun e w' => ∃ x, e = .returned (.tuple #[x, errV (pushE p n f k j now)]) ∧
      TaskO w (if pushE p n f k j now = 0 then p else 0) (if pushE p n f k j now = 0 then n + 1 else 0) (upd f n ⟨j.l, j.c, now, j.d⟩) (if pushE p n f k j now = 0 then k else kZ) x w' := by
  by_cases hv : okT p n f k
  · by_cases hn : 0 ≤ now ∧ now ≤ 1073741824
    · by_cases hj : okJ ⟨j.l, j.c, now, j.d⟩
      · by_cases h8 : 8 ≤ n
        · have hE : pushE p n f k j now = 40 := by unfold pushE; rw [if_neg (fun h => h hv), if_neg (fun h => h hn), if_neg (fun h => h hj), if_pos h8]
          rw [hE]
          exact (ppush_full p s n f k j now w h hv hn hj (by have := hv.2.1; omega)).mono fun e w' ⟨he, hb⟩ => ⟨_, he, zero_task _ hb⟩
        · have hE : pushE p n f k j now = 0 := by unfold pushE; rw [if_neg (fun h => h hv), if_neg (fun h => h hn), if_neg (fun h => h hj), if_neg h8]
          rw [hE]
          exact (ppush_ok p s n f k j now w h hv hn hj (by omega)).mono fun e w' ⟨x, he, hb⟩ => ⟨x, he, hb⟩
      · have hE : pushE p n f k j now = 2 := by unfold pushE; rw [if_neg (fun h => h hv), if_neg (fun h => h hn), if_pos hj]
        rw [hE]
        exact (ppush_range p s n f k j now w h hv hn hj).mono fun e w' ⟨he, hb⟩ => ⟨_, he, zero_task _ hb⟩
    · have hE : pushE p n f k j now = 1 := by unfold pushE; rw [if_neg (fun h => h hv), if_pos hn]
      rw [hE]
      exact (ppush_arg p s n f k j now w h hv hn).mono fun e w' ⟨he, hb⟩ => ⟨_, he, zero_task _ hb⟩
  · have hE : pushE p n f k j now = 270 := if_pos hv
    rw [hE]
    exact (ppush_state p s n f k j now w h hc hv).mono fun e w' ⟨he, hb⟩ => ⟨_, he, zero_task _ hb⟩
end Go.Proofs.Ythbkinopgialmaa
/- The program's task: what a tick makes of a task at which a job waits; no condition but those that each row names. -/
namespace Go.Proofs.Ythbkinopgialmaa
open Go.RowKit Go.Shelf Tsk

/-- The blocks that the program's give works on. -/
structure GS (w : World) (p : Int) (sv : Value) (k : Ac) (wx : World) : Prop where
  t : HasT wx w.heap.size p sv k
  r : HasT wx (w.heap.size + 1) 0 (.slice none 0 0) kZ
  below : Below w.heap.size w wx
  sz : w.heap.size + 2 ≤ wx.heap.size
theorem GS.turn {w wx w' : World} {p : Int} {sv : Value} {k : Ac} (h : GS w p sv k wx) (hb : Below wx.heap.size wx w') : GS w p sv k w' := ⟨h.t.below hb, h.r.below hb, bnext h.below hb, Nat.le_trans h.sz hb.size⟩
theorem GS.ran (w : World) (p : Int) (sv : Value) (k : Ac) : GS w p sv k ((w.alloc (.cells #[.int .i64 p, sv, .int .i64 k.g, .int .i64 k.o, .int .i64 k.n, .int .i64 k.d, .int .i64 k.c, .int .i64 k.t] KT)).alloc (.cells #[.int .i64 0, .slice none 0 0, .int .i64 0, .int .i64 0, .int .i64 0, .int .i64 0, .int .i64 0, .int .i64 0] KT)) :=
  ⟨has_old (has_new w _ _ rfl) _, has_new _ _ _ (by simp), ((Below.refl _ _).alloc (Nat.le_refl _) _).alloc (by simp) _, by simp⟩
theorem arr6 (u0 u1 u2 u3 u4 u5 u6 u7 v2 v3 v4 v5 v6 v7 : Value) : (((((#[u0, u1, u2, u3, u4, u5, u6, u7].setIfInBounds 2 v2).setIfInBounds 3 v3).setIfInBounds 4 v4).setIfInBounds 5 v5).setIfInBounds 6 v6).setIfInBounds 7 v7 = #[u0, u1, v2, v3, v4, v5, v6, v7] := by
  rw [← Array.toList_inj]
  simp only [Array.toList_setIfInBounds]
  rfl
theorem HasT.setK {W : World} {g : Nat} {p : Int} {s : Value} {k k' : Ac} (h : HasT W g p s k) :
    HasT ((((((W.setCell ⟨g, 2, none⟩ (.int .i64 k'.g)).setCell ⟨g, 3, none⟩ (.int .i64 k'.o)).setCell ⟨g, 4, none⟩ (.int .i64 k'.n)).setCell ⟨g, 5, none⟩ (.int .i64 k'.d)).setCell ⟨g, 6, none⟩ (.int .i64 k'.c)).setCell ⟨g, 7, none⟩ (.int .i64 k'.t)) g p s k' := by
  unfold HasT at h
  have a2 := has_set h 2 (.int .i64 k'.g)
  have a3 := has_set a2 3 (.int .i64 k'.o)
  have a4 := has_set a3 4 (.int .i64 k'.n)
  have a5 := has_set a4 5 (.int .i64 k'.d)
  have a6 := has_set a5 6 (.int .i64 k'.c)
  have a7 := has_set a6 7 (.int .i64 k'.t)
  clear h a2 a3 a4 a5 a6
  rw [arr6] at a7
  exact a7
theorem GS.acc {w wx : World} {p : Int} {sv : Value} {k : Ac} (h : GS w p sv k wx) (k' : Ac) :
    GS w p sv k' ((((((wx.setCell ⟨w.heap.size, 2, none⟩ (.int .i64 k'.g)).setCell ⟨w.heap.size, 3, none⟩ (.int .i64 k'.o)).setCell ⟨w.heap.size, 4, none⟩ (.int .i64 k'.n)).setCell ⟨w.heap.size, 5, none⟩ (.int .i64 k'.d)).setCell ⟨w.heap.size, 6, none⟩ (.int .i64 k'.c)).setCell ⟨w.heap.size, 7, none⟩ (.int .i64 k'.t)) := by
  refine ⟨HasT.setK h.t, ?_, ?_, ?_⟩
  · iterate 6 refine HasT.other ?_ _ _ (by show w.heap.size ≠ w.heap.size + 1; omega)
    exact h.r
  · iterate 6 refine below_low ?_ _ _ (Nat.le_refl _)
    exact h.below
  · have := h.sz
    simpa [World.setCell] using this
theorem QJ.holdsK {w wr w' : World} {b n : Nat} {s : Value} {f : Nat → Jb} {z : Int} (h : QJ w b s n f z wr) (hk : Keeps (fun x => x < w.heap.size) wr w') : Holds_J w' (.pointer (some ⟨b, 0, none⟩)) (fL f n) := by
  obtain ⟨⟨A, h1, h2, _, _, h4⟩, h3⟩ := h
  exact .inr ⟨_, b, s, A, rfl, h1.keeps hk (by have := h1.hb; omega) (fun g e => by have := (h1.own.lt g e).1; omega), h2, h4⟩
set_option maxHeartbeats 1000000 in
set_option maxRecDepth 100000 in
theorem pgive_on (p : Int) (s : Value) (n : Nat) (f : Nat → Jb) (k : Ac) (now : Int) (w : World) (h : Jobs w s n f) (hv : okT p n f k) (_ : 0 ≤ now ∧ now < 1073741824) (h0 : 0 < n) (hg : k.g < 1073741824) (hl : (f 0).l ≠ 1) (hc : (f 0).c ≠ 1) :
    Calls Try.prog 34 #[tV p s k, .int .i64 (now + 1)] w fun e w' => ∃ x, e = .returned (.tuple #[x, .int .i64 0, .int .i64 0]) ∧ TaskO w p n (upd f 0 (runJ (f 0))) ⟨k.g + 1, k.o + 1, k.n, k.d, k.c, k.t⟩ x w' := by
  have hok := hv.2.2.1 0 h0
  have hok2 := hv.2.2.2
  have HOK := Lib.hid hok
  have HJ := Lib.hid h
  have HQ := Lib.hid (fun w (h : Jobs w s n f) => pqueue s n f w h hv.2.1)
  have HLf := Lib.hid (fun w => pleft (f 0) w hok)
  have HWk := Lib.hid (fun w => pworked (f 0) w hok)
  obtain ⟨q, cap, rfl, _, _⟩ := h
  obtain ⟨kg, ko, kn, kd, kc, kt⟩ := k
  dsimp only at hg
  obtain ⟨⟨⟨g0, g1⟩, hog, hng⟩, ⟨k1, k2⟩, ⟨k3, k4⟩, ⟨k5, k6⟩⟩ := (okA_mk _ _ _ _ _ _).1 hok2
  subst hog hng
  have v1 : IntKind.i64.wrap (ko + 1) = ko + 1 := IntWalk.i64_in _ (by omega)
  obtain ⟨WA, hWA⟩ : ∃ WA, WA = (w.alloc (.cells #[.int .i64 p, .slice q n cap, .int .i64 (ko + 1), .int .i64 (ko + 1), .int .i64 0, .int .i64 kd, .int .i64 kc, .int .i64 kt] KT)).alloc (.cells #[.int .i64 0, .slice none 0 0, .int .i64 0, .int .i64 0, .int .i64 0, .int .i64 0, .int .i64 0, .int .i64 0] KT) := ⟨_, rfl⟩
  have HS := Lib.hid (show GS w p (.slice q n cap) ⟨ko + 1, ko + 1, 0, kd, kc, kt⟩ WA from by rw [hWA]; exact GS.ran w p (.slice q n cap) ⟨ko + 1, ko + 1, 0, kd, kc, kt⟩)
  have HW := Lib.hid hWA
  have hn8 := hv.2.1
  clear hv hok hok2 hWA
  have hneed : 1 < need (f 0) := by
    obtain ⟨⟨l1, l2⟩, ⟨c1, c2⟩, _⟩ := HOK.out
    unfold need
    split <;> omega
  have HF := Lib.hid (show f = f from rfl)
  obtain ⟨jb, hjb⟩ : ∃ jb, jb = f 0 := ⟨_, rfl⟩
  rw [← hjb] at HLf HWk HOK hneed hl hc
  rw [← hjb]
  have HJB := Lib.hid hjb
  clear hjb
  obtain ⟨jl, jc, ja, jd⟩ := jb
  dsimp only at hl hc
  obtain ⟨z, hz⟩ : ∃ z, z = need ⟨jl, jc, ja, jd⟩ := ⟨_, rfl⟩
  rw [← hz] at HLf hneed
  clear hz
  obtain ⟨x, hx⟩ : ∃ x, x = runJ ⟨jl, jc, ja, jd⟩ := ⟨_, rfl⟩
  rw [← hx] at HWk
  rw [← hx]
  clear hx
  obtain ⟨xl, xc, xa, xd⟩ := x
  go_enter Try.func34, Try.ntmps34
  go_wp2_with fail
  rw [← HW.out]
  refine (HQ.out _ (HJ.out.below HS.out.below)).mono ?_
  rintro e w1 ⟨b, s1, rfl, hq1⟩
  have H1 := Lib.hid (HS.out.turn hq1.below)
  have hhd := qhead _ _ _ _ _ _ _ hq1 h0
  rw [← HJB.out] at hhd
  have HH := Lib.hid hhd
  have HQ1 := Lib.hid hq1
  clear hq1 hhd
  go_wp2_with fail
  refine HH.out.mono ?_
  rintro e w2 ⟨rfl, hb2⟩
  obtain ⟨W3, hW3⟩ : ∃ W3, W3 = w2.alloc (.cells #[.int .i64 jl, .int .i64 jc, .int .i64 ja, .int .i64 jd] JT) := ⟨_, rfl⟩
  have H3 := Lib.hid (show GS w p (.slice q n cap) ⟨ko + 1, ko + 1, 0, kd, kc, kt⟩ W3 ∧ HasJ0 W3 w2.heap.size ⟨jl, jc, ja, jd⟩ ∧ QJ WA b s1 n f n W3 from by
    have hb3 : Below w1.heap.size w1 W3 := by rw [hW3]; exact hb2.alloc hb2.size _
    exact ⟨H1.out.turn hb3, by rw [hW3]; exact has_new _ _ _ rfl, HQ1.out.turn hb3⟩)
  have hlt := (HQ1.out.turn hb2).lt
  have hbl := hlt.1
  have HG := Lib.hid hlt.2
  have HW3 := Lib.hid hW3
  clear hW3 hb2 hlt
  go_wp2_with fail
  rw [← HW3.out]
  refine (HLf.out _).mono ?_
  rintro e w4 ⟨rfl, hb4⟩
  have H4 := Lib.hid (show GS w p (.slice q n cap) ⟨ko + 1, ko + 1, 0, kd, kc, kt⟩ w4 ∧ HasJ0 w4 w2.heap.size ⟨jl, jc, ja, jd⟩ ∧ QJ WA b s1 n f n w4 from ⟨H3.out.1.turn hb4, (hb4.block _ (has_lt H3.out.2.1)).trans H3.out.2.1, H3.out.2.2.turn hb4⟩)
  obtain ⟨j0, j1, j2, j3⟩ := H4.out.2.1.cells
  clear hb4
  go_wp2_with fail
  refine (HWk.out _).mono ?_
  rintro e w5 ⟨rfl, hb5⟩
  have HP := Lib.hid (qput _ _ _ _ _ _ _ (H4.out.2.2.turn hb5) ⟨xl, xc, xa, xd⟩ h0 (by omega))
  clear hb5 j0 j1 j2 j3
  go_wp2_with fail
  refine HP.out.mono ?_
  rintro e w6 ⟨rfl, hq6, hk6⟩
  have H6 := Lib.hid (HS.out.turn hq6.below)
  have HL6 := Lib.hid (qlist _ _ _ _ _ _ _ hq6)
  obtain ⟨x0, x1, x2, x3, x4, x5, x6, x7⟩ := H6.out.t.cells
  clear hq6 hk6
  go_wp2_with fail
  refine HL6.out.mono ?_
  rintro e w7 ⟨p7, c7, rfl, ho7, hb7⟩
  have H7 := Lib.hid (H6.out.turn hb7)
  have HO7 := Lib.hid ho7
  have hs6 := H6.out.sz
  obtain ⟨y0, y1, y2, y3, y4, y5, y6, y7⟩ := H7.out.r.cells
  have yf := fun j => has_free H7.out.r j
  clear x0 x1 x2 x3 x4 x5 x6 x7
  obtain ⟨x0, x1, x2, x3, x4, x5, x6, x7⟩ := H7.out.t.cells
  have xf := fun j => has_free H7.out.t j
  clear hb7 ho7
  go_wp2_with fail
  refine bodyPost_ret (v := .tuple #[tV p (.slice p7 (n) c7) ⟨ko + 1, ko + 1, 0, kd, kc, kt⟩, .int .i64 0, .int .i64 0]) (by simp [results, Try.results34, go_sem, y0, y1, y2, y3, y4, y5, y6, y7]) rfl ⟨_, rfl, p7, c7, rfl, ?_, ?_⟩
  · refine own_base2 (B := w6.heap.size) ?_ (by omega)
    repeat (first | (with_reducible exact HO7.out) | refine own_low ?_ _ _ (by first | (simp; done) | (simp; omega)))
  · repeat (first | (with_reducible exact H7.out.below) | refine below_low ?_ _ _ (by first | (simp; done) | (simp; omega)))
set_option maxHeartbeats 1000000 in
set_option maxRecDepth 100000 in
theorem pgive_done (p : Int) (s : Value) (n : Nat) (f : Nat → Jb) (k : Ac) (now : Int) (w : World) (h : Jobs w s n f) (hv : okT p n f k) (hn : 0 ≤ now ∧ now < 1073741824) (h0 : 0 < n) (hg : k.g < 1073741824) (hl : (f 0).l = 1) :
    Calls Try.prog 34 #[tV p s k, .int .i64 (now + 1)] w fun e w' => ∃ x, e = .returned (.tuple #[x, .int .i64 1, .int .i64 (lateS (f 0) (now + 1))]) ∧ TaskO w p (n - 1) (fun i => f (i + 1)) (endedK ⟨k.g + 1, k.o + 1, k.n, k.d, k.c, k.t⟩ 1 (lateS (f 0) (now + 1))) x w' := by
  have hok := hv.2.2.1 0 h0
  have hok2 := hv.2.2.2
  have HOK := Lib.hid hok
  have HJ := Lib.hid h
  have HQ := Lib.hid (fun w (h : Jobs w s n f) => pqueue s n f w h hv.2.1)
  have HLf := Lib.hid (fun w => pleft (f 0) w hok)
  have HWk := Lib.hid (fun w => pworked (f 0) w hok)
  obtain ⟨q, cap, rfl, _, _⟩ := h
  obtain ⟨kg, ko, kn, kd, kc, kt⟩ := k
  dsimp only at hg
  obtain ⟨⟨⟨g0, g1⟩, hog, hng⟩, ⟨k1, k2⟩, ⟨k3, k4⟩, ⟨k5, k6⟩⟩ := (okA_mk _ _ _ _ _ _).1 hok2
  subst hog hng
  have v1 : IntKind.i64.wrap (ko + 1) = ko + 1 := IntWalk.i64_in _ (by omega)
  obtain ⟨WA, hWA⟩ : ∃ WA, WA = (w.alloc (.cells #[.int .i64 p, .slice q n cap, .int .i64 (ko + 1), .int .i64 (ko + 1), .int .i64 0, .int .i64 kd, .int .i64 kc, .int .i64 kt] KT)).alloc (.cells #[.int .i64 0, .slice none 0 0, .int .i64 0, .int .i64 0, .int .i64 0, .int .i64 0, .int .i64 0, .int .i64 0] KT) := ⟨_, rfl⟩
  have HS := Lib.hid (show GS w p (.slice q n cap) ⟨ko + 1, ko + 1, 0, kd, kc, kt⟩ WA from by rw [hWA]; exact GS.ran w p (.slice q n cap) ⟨ko + 1, ko + 1, 0, kd, kc, kt⟩)
  have HW := Lib.hid hWA
  have hn8 := hv.2.1
  clear hv hok hok2 hWA
  have hneed : need (f 0) ≤ 1 := by
    obtain ⟨⟨l1, l2⟩, ⟨c1, c2⟩, _⟩ := HOK.out
    unfold need
    split <;> omega
  have HLt := Lib.hid (fun w => plate (f 0) (now + 1) w HOK.out (by omega) (by omega))
  have HF := Lib.hid (show f = f from rfl)
  obtain ⟨jb, hjb⟩ : ∃ jb, jb = f 0 := ⟨_, rfl⟩
  rw [← hjb] at HLf HWk HOK hneed HLt hl
  rw [← hjb]
  have HJB := Lib.hid hjb
  clear hjb
  obtain ⟨jl, jc, ja, jd⟩ := jb
  dsimp only at hl
  obtain ⟨z, hz⟩ : ∃ z, z = need ⟨jl, jc, ja, jd⟩ := ⟨_, rfl⟩
  rw [← hz] at HLf hneed
  clear hz HWk
  obtain ⟨ll, hll⟩ : ∃ ll, ll = lateS ⟨jl, jc, ja, jd⟩ (now + 1) := ⟨_, rfl⟩
  rw [← hll] at HLt
  rw [← hll]
  clear hll
  have hz1 : decide (1 < z) = false := decide_eq_false (by omega)
  have HE := Lib.hid (fun w => pended ⟨ko + 1, ko + 1, 0, kd, kc, kt⟩ 1 ll w ⟨by dsimp only; omega, by dsimp only; omega⟩ ⟨by dsimp only; omega, by dsimp only; omega⟩ ⟨by dsimp only; omega, by dsimp only; omega⟩)
  dsimp only
  obtain ⟨E, hE⟩ : ∃ E, E = endedK ⟨ko + 1, ko + 1, 0, kd, kc, kt⟩ 1 ll := ⟨_, rfl⟩
  rw [← hE] at HE
  rw [← hE]
  clear hE
  obtain ⟨eg, eo, en, ed, ec, et⟩ := E
  have hl2 : (jl == 1) = true := by simpa using hl
  clear hl
  go_enter Try.func34, Try.ntmps34
  go_wp2_with fail
  rw [← HW.out]
  refine (HQ.out _ (HJ.out.below HS.out.below)).mono ?_
  rintro e w1 ⟨b, s1, rfl, hq1⟩
  have H1 := Lib.hid (HS.out.turn hq1.below)
  have hhd := qhead _ _ _ _ _ _ _ hq1 h0
  rw [← HJB.out] at hhd
  have HH := Lib.hid hhd
  have HQ1 := Lib.hid hq1
  clear hq1 hhd
  go_wp2_with fail
  refine HH.out.mono ?_
  rintro e w2 ⟨rfl, hb2⟩
  obtain ⟨W3, hW3⟩ : ∃ W3, W3 = w2.alloc (.cells #[.int .i64 jl, .int .i64 jc, .int .i64 ja, .int .i64 jd] JT) := ⟨_, rfl⟩
  have H3 := Lib.hid (show GS w p (.slice q n cap) ⟨ko + 1, ko + 1, 0, kd, kc, kt⟩ W3 ∧ HasJ0 W3 w2.heap.size ⟨jl, jc, ja, jd⟩ ∧ QJ WA b s1 n f n W3 from by
    have hb3 : Below w1.heap.size w1 W3 := by rw [hW3]; exact hb2.alloc hb2.size _
    exact ⟨H1.out.turn hb3, by rw [hW3]; exact has_new _ _ _ rfl, HQ1.out.turn hb3⟩)
  have hlt := (HQ1.out.turn hb2).lt
  have hbl := hlt.1
  have HG := Lib.hid hlt.2
  have HW3 := Lib.hid hW3
  clear hW3 hb2 hlt
  go_wp2_with fail
  rw [← HW3.out]
  refine (HLf.out _).mono ?_
  rintro e w4 ⟨rfl, hb4⟩
  have H4 := Lib.hid (show GS w p (.slice q n cap) ⟨ko + 1, ko + 1, 0, kd, kc, kt⟩ w4 ∧ HasJ0 w4 w2.heap.size ⟨jl, jc, ja, jd⟩ ∧ QJ WA b s1 n f n w4 from ⟨H3.out.1.turn hb4, (hb4.block _ (has_lt H3.out.2.1)).trans H3.out.2.1, H3.out.2.2.turn hb4⟩)
  obtain ⟨j0, j1, j2, j3⟩ := H4.out.2.1.cells
  clear hb4
  go_wp2_with fail
  have HP := Lib.hid (qpop _ _ _ _ _ _ _ H4.out.2.2 h0)
  rw [← HJB.out] at HP
  refine HP.out.mono ?_
  rintro e w5 ⟨rfl, s5, hq5, hk5⟩
  have H5 := Lib.hid (HS.out.turn hq5.below)
  have hj5 := HasJ0.keeps H4.out.2.1 hk5 (by rintro (e | e); omega; have := HG.out _ e; omega)
  obtain ⟨i0, i1, i2, i3⟩ := hj5.cells
  have HQ5 := Lib.hid hq5
  clear hq5 hk5 hj5 j0 j1 j2 j3
  go_wp2_with fail
  refine (HLt.out _).mono ?_
  rintro e w6 ⟨rfl, hb6⟩
  have H6 := Lib.hid (H5.out.turn hb6)
  have HQ6 := Lib.hid (HQ5.out.turn hb6)
  obtain ⟨x0, x1, x2, x3, x4, x5, x6, x7⟩ := H6.out.t.cells
  clear hb6 i0 i1 i2 i3
  go_wp2_with fail
  refine (HE.out _).mono ?_
  rintro e w8 ⟨rfl, hb8⟩
  have H8 := Lib.hid (H6.out.turn hb8)
  have HQ8 := Lib.hid (HQ6.out.turn hb8)
  clear x0 x1 x2 x3 x4 x5 x6 x7 hb8
  obtain ⟨x0, x1, x2, x3, x4, x5, x6, x7⟩ := H8.out.t.cells
  have xf8 := fun j => has_free H8.out.t j
  have hws : w.heap.size < WA.heap.size := by have := HS.out.sz; omega
  go_wp2_with fail
  obtain ⟨W9, hW9⟩ : ∃ W9, W9 = ((((((w8.setCell ⟨w.heap.size, 2, none⟩ (.int .i64 eg)).setCell ⟨w.heap.size, 3, none⟩ (.int .i64 eo)).setCell ⟨w.heap.size, 4, none⟩ (.int .i64 en)).setCell ⟨w.heap.size, 5, none⟩ (.int .i64 ed)).setCell ⟨w.heap.size, 6, none⟩ (.int .i64 ec)).setCell ⟨w.heap.size, 7, none⟩ (.int .i64 et)) := ⟨_, rfl⟩
  have H9 := Lib.hid (show GS w p (.slice q n cap) ⟨eg, eo, en, ed, ec, et⟩ W9 from by rw [hW9]; exact H8.out.acc ⟨eg, eo, en, ed, ec, et⟩)
  have HL9 := Lib.hid (jlist_any W9 _ (n - 1) (fun i => f (i + 1)) (HQ8.out.holdsK (by
    rw [hW9]
    iterate 6 refine Keeps.setCell ?_ _ _ (.inl hws)
    exact Keeps.refl _ _)))
  rw [← hW9]
  clear hW9 x0 x1 x2 x3 x4 x5 x6 x7 xf8
  refine HL9.out.mono ?_
  rintro e w7 ⟨p7, c7, rfl, ho7, hb7⟩
  have H7 := Lib.hid (H9.out.turn hb7)
  have HO7 := Lib.hid ho7
  have hs6 := H9.out.sz
  obtain ⟨y0, y1, y2, y3, y4, y5, y6, y7⟩ := H7.out.r.cells
  have yf := fun j => has_free H7.out.r j
  obtain ⟨x0, x1, x2, x3, x4, x5, x6, x7⟩ := H7.out.t.cells
  have xf := fun j => has_free H7.out.t j
  clear hb7 ho7
  go_wp2_with fail
  refine bodyPost_ret (v := .tuple #[tV p (.slice p7 (n - 1) c7) ⟨eg, eo, en, ed, ec, et⟩, .int .i64 1, .int .i64 ll]) (by simp [results, Try.results34, go_sem, y0, y1, y2, y3, y4, y5, y6, y7]) rfl ⟨_, rfl, p7, c7, rfl, ?_, ?_⟩
  · refine own_base2 (B := W9.heap.size) ?_ (by omega)
    repeat (first | (with_reducible exact HO7.out) | refine own_low ?_ _ _ (by first | (simp; done) | (simp; omega)))
  · repeat (first | (with_reducible exact H7.out.below) | refine below_low ?_ _ _ (by first | (simp; done) | (simp; omega)))
set_option maxHeartbeats 1000000 in
set_option maxRecDepth 100000 in
theorem pgive_cut (p : Int) (s : Value) (n : Nat) (f : Nat → Jb) (k : Ac) (now : Int) (w : World) (h : Jobs w s n f) (hv : okT p n f k) (hn : 0 ≤ now ∧ now < 1073741824) (h0 : 0 < n) (hg : k.g < 1073741824) (hl : (f 0).l ≠ 1) (hc : (f 0).c = 1) :
    Calls Try.prog 34 #[tV p s k, .int .i64 (now + 1)] w fun e w' => ∃ x, e = .returned (.tuple #[x, .int .i64 2, .int .i64 (lateS (f 0) (now + 1))]) ∧ TaskO w p (n - 1) (fun i => f (i + 1)) (endedK ⟨k.g + 1, k.o + 1, k.n, k.d, k.c, k.t⟩ 2 (lateS (f 0) (now + 1))) x w' := by
  have hok := hv.2.2.1 0 h0
  have hok2 := hv.2.2.2
  have HOK := Lib.hid hok
  have HJ := Lib.hid h
  have HQ := Lib.hid (fun w (h : Jobs w s n f) => pqueue s n f w h hv.2.1)
  have HLf := Lib.hid (fun w => pleft (f 0) w hok)
  have HWk := Lib.hid (fun w => pworked (f 0) w hok)
  obtain ⟨q, cap, rfl, _, _⟩ := h
  obtain ⟨kg, ko, kn, kd, kc, kt⟩ := k
  dsimp only at hg
  obtain ⟨⟨⟨g0, g1⟩, hog, hng⟩, ⟨k1, k2⟩, ⟨k3, k4⟩, ⟨k5, k6⟩⟩ := (okA_mk _ _ _ _ _ _).1 hok2
  subst hog hng
  have v1 : IntKind.i64.wrap (ko + 1) = ko + 1 := IntWalk.i64_in _ (by omega)
  obtain ⟨WA, hWA⟩ : ∃ WA, WA = (w.alloc (.cells #[.int .i64 p, .slice q n cap, .int .i64 (ko + 1), .int .i64 (ko + 1), .int .i64 0, .int .i64 kd, .int .i64 kc, .int .i64 kt] KT)).alloc (.cells #[.int .i64 0, .slice none 0 0, .int .i64 0, .int .i64 0, .int .i64 0, .int .i64 0, .int .i64 0, .int .i64 0] KT) := ⟨_, rfl⟩
  have HS := Lib.hid (show GS w p (.slice q n cap) ⟨ko + 1, ko + 1, 0, kd, kc, kt⟩ WA from by rw [hWA]; exact GS.ran w p (.slice q n cap) ⟨ko + 1, ko + 1, 0, kd, kc, kt⟩)
  have HW := Lib.hid hWA
  have hn8 := hv.2.1
  clear hv hok hok2 hWA
  have hneed : need (f 0) ≤ 1 := by
    obtain ⟨⟨l1, l2⟩, ⟨c1, c2⟩, _⟩ := HOK.out
    unfold need
    split <;> omega
  have HLt := Lib.hid (fun w => plate (f 0) (now + 1) w HOK.out (by omega) (by omega))
  have HF := Lib.hid (show f = f from rfl)
  obtain ⟨jb, hjb⟩ : ∃ jb, jb = f 0 := ⟨_, rfl⟩
  rw [← hjb] at HLf HWk HOK hneed HLt hl hc
  rw [← hjb]
  have HJB := Lib.hid hjb
  clear hjb
  obtain ⟨jl, jc, ja, jd⟩ := jb
  dsimp only at hl hc
  obtain ⟨z, hz⟩ : ∃ z, z = need ⟨jl, jc, ja, jd⟩ := ⟨_, rfl⟩
  rw [← hz] at HLf hneed
  clear hz HWk
  obtain ⟨ll, hll⟩ : ∃ ll, ll = lateS ⟨jl, jc, ja, jd⟩ (now + 1) := ⟨_, rfl⟩
  rw [← hll] at HLt
  rw [← hll]
  clear hll
  have hz1 : decide (1 < z) = false := decide_eq_false (by omega)
  have HE := Lib.hid (fun w => pended ⟨ko + 1, ko + 1, 0, kd, kc, kt⟩ 2 ll w ⟨by dsimp only; omega, by dsimp only; omega⟩ ⟨by dsimp only; omega, by dsimp only; omega⟩ ⟨by dsimp only; omega, by dsimp only; omega⟩)
  dsimp only
  obtain ⟨E, hE⟩ : ∃ E, E = endedK ⟨ko + 1, ko + 1, 0, kd, kc, kt⟩ 2 ll := ⟨_, rfl⟩
  rw [← hE] at HE
  rw [← hE]
  clear hE
  obtain ⟨eg, eo, en, ed, ec, et⟩ := E
  have hl2 : (jl == 1) = false := by simpa using hl
  clear hl hc
  go_enter Try.func34, Try.ntmps34
  go_wp2_with fail
  rw [← HW.out]
  refine (HQ.out _ (HJ.out.below HS.out.below)).mono ?_
  rintro e w1 ⟨b, s1, rfl, hq1⟩
  have H1 := Lib.hid (HS.out.turn hq1.below)
  have hhd := qhead _ _ _ _ _ _ _ hq1 h0
  rw [← HJB.out] at hhd
  have HH := Lib.hid hhd
  have HQ1 := Lib.hid hq1
  clear hq1 hhd
  go_wp2_with fail
  refine HH.out.mono ?_
  rintro e w2 ⟨rfl, hb2⟩
  obtain ⟨W3, hW3⟩ : ∃ W3, W3 = w2.alloc (.cells #[.int .i64 jl, .int .i64 jc, .int .i64 ja, .int .i64 jd] JT) := ⟨_, rfl⟩
  have H3 := Lib.hid (show GS w p (.slice q n cap) ⟨ko + 1, ko + 1, 0, kd, kc, kt⟩ W3 ∧ HasJ0 W3 w2.heap.size ⟨jl, jc, ja, jd⟩ ∧ QJ WA b s1 n f n W3 from by
    have hb3 : Below w1.heap.size w1 W3 := by rw [hW3]; exact hb2.alloc hb2.size _
    exact ⟨H1.out.turn hb3, by rw [hW3]; exact has_new _ _ _ rfl, HQ1.out.turn hb3⟩)
  have hlt := (HQ1.out.turn hb2).lt
  have hbl := hlt.1
  have HG := Lib.hid hlt.2
  have HW3 := Lib.hid hW3
  clear hW3 hb2 hlt
  go_wp2_with fail
  rw [← HW3.out]
  refine (HLf.out _).mono ?_
  rintro e w4 ⟨rfl, hb4⟩
  have H4 := Lib.hid (show GS w p (.slice q n cap) ⟨ko + 1, ko + 1, 0, kd, kc, kt⟩ w4 ∧ HasJ0 w4 w2.heap.size ⟨jl, jc, ja, jd⟩ ∧ QJ WA b s1 n f n w4 from ⟨H3.out.1.turn hb4, (hb4.block _ (has_lt H3.out.2.1)).trans H3.out.2.1, H3.out.2.2.turn hb4⟩)
  obtain ⟨j0, j1, j2, j3⟩ := H4.out.2.1.cells
  clear hb4
  go_wp2_with fail
  have HP := Lib.hid (qpop _ _ _ _ _ _ _ H4.out.2.2 h0)
  rw [← HJB.out] at HP
  refine HP.out.mono ?_
  rintro e w5 ⟨rfl, s5, hq5, hk5⟩
  have H5 := Lib.hid (HS.out.turn hq5.below)
  have hj5 := HasJ0.keeps H4.out.2.1 hk5 (by rintro (e | e); omega; have := HG.out _ e; omega)
  obtain ⟨i0, i1, i2, i3⟩ := hj5.cells
  have HQ5 := Lib.hid hq5
  clear hq5 hk5 hj5 j0 j1 j2 j3
  go_wp2_with fail
  refine (HLt.out _).mono ?_
  rintro e w6 ⟨rfl, hb6⟩
  have H6 := Lib.hid (H5.out.turn hb6)
  have HQ6 := Lib.hid (HQ5.out.turn hb6)
  obtain ⟨x0, x1, x2, x3, x4, x5, x6, x7⟩ := H6.out.t.cells
  clear hb6 i0 i1 i2 i3
  go_wp2_with fail
  refine (HE.out _).mono ?_
  rintro e w8 ⟨rfl, hb8⟩
  have H8 := Lib.hid (H6.out.turn hb8)
  have HQ8 := Lib.hid (HQ6.out.turn hb8)
  clear x0 x1 x2 x3 x4 x5 x6 x7 hb8
  obtain ⟨x0, x1, x2, x3, x4, x5, x6, x7⟩ := H8.out.t.cells
  have xf8 := fun j => has_free H8.out.t j
  have hws : w.heap.size < WA.heap.size := by have := HS.out.sz; omega
  go_wp2_with fail
  obtain ⟨W9, hW9⟩ : ∃ W9, W9 = ((((((w8.setCell ⟨w.heap.size, 2, none⟩ (.int .i64 eg)).setCell ⟨w.heap.size, 3, none⟩ (.int .i64 eo)).setCell ⟨w.heap.size, 4, none⟩ (.int .i64 en)).setCell ⟨w.heap.size, 5, none⟩ (.int .i64 ed)).setCell ⟨w.heap.size, 6, none⟩ (.int .i64 ec)).setCell ⟨w.heap.size, 7, none⟩ (.int .i64 et)) := ⟨_, rfl⟩
  have H9 := Lib.hid (show GS w p (.slice q n cap) ⟨eg, eo, en, ed, ec, et⟩ W9 from by rw [hW9]; exact H8.out.acc ⟨eg, eo, en, ed, ec, et⟩)
  have HL9 := Lib.hid (jlist_any W9 _ (n - 1) (fun i => f (i + 1)) (HQ8.out.holdsK (by
    rw [hW9]
    iterate 6 refine Keeps.setCell ?_ _ _ (.inl hws)
    exact Keeps.refl _ _)))
  rw [← hW9]
  clear hW9 x0 x1 x2 x3 x4 x5 x6 x7 xf8
  refine HL9.out.mono ?_
  rintro e w7 ⟨p7, c7, rfl, ho7, hb7⟩
  have H7 := Lib.hid (H9.out.turn hb7)
  have HO7 := Lib.hid ho7
  have hs6 := H9.out.sz
  obtain ⟨y0, y1, y2, y3, y4, y5, y6, y7⟩ := H7.out.r.cells
  have yf := fun j => has_free H7.out.r j
  obtain ⟨x0, x1, x2, x3, x4, x5, x6, x7⟩ := H7.out.t.cells
  have xf := fun j => has_free H7.out.t j
  clear hb7 ho7
  go_wp2_with fail
  refine bodyPost_ret (v := .tuple #[tV p (.slice p7 (n - 1) c7) ⟨eg, eo, en, ed, ec, et⟩, .int .i64 2, .int .i64 ll]) (by simp [results, Try.results34, go_sem, y0, y1, y2, y3, y4, y5, y6, y7]) rfl ⟨_, rfl, p7, c7, rfl, ?_, ?_⟩
  · refine own_base2 (B := W9.heap.size) ?_ (by omega)
    repeat (first | (with_reducible exact HO7.out) | refine own_low ?_ _ _ (by first | (simp; done) | (simp; omega)))
  · repeat (first | (with_reducible exact H7.out.below) | refine below_low ?_ _ _ (by first | (simp; done) | (simp; omega)))
end Go.Proofs.Ythbkinopgialmaa
