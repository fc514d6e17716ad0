/- The program's task: Same, over the library's Equal of jobs; no condition but those that each row names. -/
import Derived.Test.YtpfhebfkhailfaaDoorUVal
import Derived.Test.YtpfhebfkhailfaaDoorQRefG
namespace Go.Proofs.YtpfhebfkhailfaaDoor
open Go.RowKit Tsk

set_option maxHeartbeats 1000000 in
theorem pequal_jobs (s s' : Value) (n : Nat) (f f' : Nat → Jb) (w : World) (h : Jobs w s n f) (h' : Jobs w s' n f') : Calls Tryd.prog 45 #[s, s'] w fun e w' => e = .returned (.bool (decide (∀ i, i < n → f i = f' i))) ∧ Below w.heap.size w w' := by
  have HJ := Lib.hid h
  have HJ' := Lib.hid h'
  obtain ⟨q, cap, rfl, hn, _⟩ := h
  obtain ⟨q', cap', rfl, _, _⟩ := h'
  go_enter Tryd.func45, Tryd.ntmps45
  go_wp2_with fail
  go_loopw [13] (fun iv wr => ∃ i : Nat, iv = .int .i64 i ∧ i ≤ n ∧ Hid (∀ j, j < i → f j = f' j) ∧ Hid (Below w.heap.size w wr)) (fun iv _ => n - (intOf iv).toNat)
  case atStart => exact ⟨0, rfl, Nat.zero_le _, Lib.hid (fun j hj => by omega), Lib.hid (Below.refl _ _)⟩
  case round =>
    obtain ⟨i, rfl, hi, HE, HBw⟩ := hrel
    by_cases hin : i < n
    · have hin' : (i : Int) < (n : Int) := by omega
      obtain ⟨q0, cap0, e, _, hcl⟩ := HJ.out.below HBw.out
      cases e
      obtain ⟨b, off, rfl, d0, d1, d2, d3⟩ := hcl i hin
      obtain ⟨q1, cap1, e, _, hcl'⟩ := HJ'.out.below HBw.out
      cases e
      obtain ⟨b', off', rfl, e0, e1, e2, e3⟩ := hcl' i hin
      clear hcl hcl'
      by_cases heq : f i = f' i
      · have HE2 := Lib.hid (show ∀ j, j < i + 1 → f j = f' j from fun j hj => by
          rcases Nat.lt_succ_iff_lt_or_eq.1 hj with h | h
          · exact HE.out j h
          · rw [h]; exact heq)
        rw [heq] at d0 d1 d2 d3
        generalize f' i = jb at *
        obtain ⟨l, c, a, d⟩ := jb
        dsimp only at d0 d1 d2 d3 e0 e1 e2 e3
        clear heq
        go_wp2_with fail
        go_quiet (fail)
        have HBq := Lib.hid (below_drewN HBw.out nq)
        go_wp2_with fail
        go_roundw
        case rel => exact ⟨i + 1, by go_num, by omega, HE2, HBq⟩
        case measure => simp [intOf]; omega
      · have HF := Lib.hid (show decide (∀ i, i < n → f i = f' i) = false from decide_eq_false (fun h => heq (h i hin)))
        generalize f i = jb at *
        generalize f' i = jb' at *
        obtain ⟨l, c, a, d⟩ := jb
        obtain ⟨l', c', a', d'⟩ := jb'
        dsimp only at d0 d1 d2 d3 e0 e1 e2 e3
        have hne := neq_jb heq
        clear heq
        by_cases hl : l = l'
        · subst hl
          by_cases hc : c = c'
          · subst hc
            by_cases ha : a = a'
            · subst ha
              have hd : ¬ d = d' := fun h => hne ⟨rfl, rfl, rfl, h⟩
              have z : (d == d') = false := by simpa using hd
              clear hne hd
              go_wp2_with fail
              go_quiet (fail)
              have HBq := Lib.hid (below_drewN HBw.out nq)
              go_wp2_with fail
              go_ret
              exact ⟨ret_bool HF.out.symm, HBq.out⟩
            · have z : (a == a') = false := by simpa using ha
              clear hne ha
              go_wp2_with fail
              go_quiet (fail)
              have HBq := Lib.hid (below_drewN HBw.out nq)
              go_wp2_with fail
              go_ret
              exact ⟨ret_bool HF.out.symm, HBq.out⟩
          · have z : (c == c') = false := by simpa using hc
            clear hne hc
            go_wp2_with fail
            go_quiet (fail)
            have HBq := Lib.hid (below_drewN HBw.out nq)
            go_wp2_with fail
            go_ret
            exact ⟨ret_bool HF.out.symm, HBq.out⟩
        · have z : (l == l') = false := by simpa using hl
          clear hne hl
          go_wp2_with fail
          go_quiet (fail)
          have HBq := Lib.hid (below_drewN HBw.out nq)
          go_wp2_with fail
          go_ret
          exact ⟨ret_bool HF.out.symm, HBq.out⟩
    · have hg3 : decide (i < n) = false := decide_eq_false hin
      obtain rfl : i = n := by omega
      have HF := Lib.hid (show decide (∀ j, j < i → f j = f' j) = true from decide_eq_true HE.out)
      clear hin
      go_wp2_with fail
      go_ret
      exact ⟨ret_bool HF.out.symm, HBw.out⟩
theorem pequal_len (s s' : Value) (n n' : Nat) (f f' : Nat → Jb) (w : World) (h : Jobs w s n f) (h' : Jobs w s' n' f') (hne : ¬ n = n') : Calls Tryd.prog 45 #[s, s'] w fun e w' => e = .returned (.bool false) ∧ Below w.heap.size w w' := by
  obtain ⟨q, cap, rfl, _, _⟩ := h
  obtain ⟨q', cap', rfl, _, _⟩ := h'
  have hp2 : ((n : Int) != (n' : Int)) = true := by simp; omega
  have hp3 : (n != n') = true := by simpa using hne
  clear hne
  go_enter Tryd.func45, Tryd.ntmps45
  go_wp2_with fail
  go_ret
  exact ⟨rfl, Below.refl _ _⟩
set_option maxHeartbeats 1000000 in
theorem psame_prio (p : Int) (q : Option Addr) (n cap : Nat) (k : Ac) (p' : Int) (q' : Option Addr) (n' cap' : Nat) (k' : Ac) (w : World) (hp : ¬ p = p') : Calls Tryd.prog 18 #[tV p (.slice q n cap) k, tV p' (.slice q' n' cap') k'] w fun e w' => e = .returned (.bool false) ∧ Below w.heap.size w w' := by
  obtain ⟨kg, ko, kn, kd, kc, kt⟩ := k
  obtain ⟨kg', ko', kn', kd', kc', kt'⟩ := k'
  have hp2 : (p == p') = false := by simpa using hp
  clear hp
  go_enter Tryd.func18, Tryd.ntmps18
  go_wp2_with fail
  go_ret
  exact ⟨rfl, (by repeat (first | exact Below.refl _ _ | (with_reducible assumption) | refine Below.drew ?_ | (refine Below.alloc ?_ (by first | exact Nat.le_refl _ | omega | (simp; done) | (simp; omega)) _) | (refine Below.setCell ?_ (by first | omega | (simp; done) | (simp; omega)) _)))⟩
set_option maxHeartbeats 2000000 in
theorem psame_acc (p : Int) (q : Option Addr) (n cap : Nat) (k : Ac) (p' : Int) (q' : Option Addr) (n' cap' : Nat) (k' : Ac) (w : World) (hp : p = p') (hk : ¬ k = k') : Calls Tryd.prog 18 #[tV p (.slice q n cap) k, tV p' (.slice q' n' cap') k'] w fun e w' => e = .returned (.bool false) ∧ Below w.heap.size w w' := by
  subst hp
  obtain ⟨kg, ko, kn, kd, kc, kt⟩ := k
  obtain ⟨kg', ko', kn', kd', kc', kt'⟩ := k'
  have hk2 := neq_ac hk
  clear hk
  go_enter Tryd.func18, Tryd.ntmps18
  go_wp2_with fail
  all_goals (go_ret; exact ⟨rfl, (by repeat (first | exact Below.refl _ _ | (with_reducible assumption) | refine Below.drew ?_ | (refine Below.alloc ?_ (by first | exact Nat.le_refl _ | omega | (simp; done) | (simp; omega)) _) | (refine Below.setCell ?_ (by first | omega | (simp; done) | (simp; omega)) _)))⟩)
set_option maxHeartbeats 1000000 in
theorem psame_jobs (p : Int) (q q' : Option Addr) (n n' cap cap' : Nat) (k : Ac) (w : World) (b : Bool) (H : ∀ W, Below w.heap.size w W → Calls Tryd.prog 45 #[.slice q n cap, .slice q' n' cap'] W fun e w' => e = .returned (.bool b) ∧ Below W.heap.size W w') :
    Calls Tryd.prog 18 #[tV p (.slice q n cap) k, tV p (.slice q' n' cap') k] w fun e w' => e = .returned (.bool b) ∧ Below w.heap.size w w' := by
  obtain ⟨kg, ko, kn, kd, kc, kt⟩ := k
  obtain ⟨WA, hWA⟩ : ∃ WA, WA = (w.alloc (.cells #[.int .i64 p, .slice q n cap, .int .i64 kg, .int .i64 ko, .int .i64 kn, .int .i64 kd, .int .i64 kc, .int .i64 kt] KT)).alloc (.cells #[.int .i64 p, .slice q' n' cap', .int .i64 kg, .int .i64 ko, .int .i64 kn, .int .i64 kd, .int .i64 kc, .int .i64 kt] KT) := ⟨_, rfl⟩
  have HB := Lib.hid (show Below w.heap.size w WA from by rw [hWA]; exact ((Below.refl _ _).alloc (Nat.le_refl _) _).alloc (by simp) _)
  have HC := Lib.hid (H WA HB.out)
  have HW := Lib.hid hWA
  clear hWA H
  go_enter Tryd.func18, Tryd.ntmps18
  go_wp2_with fail
  rw [← HW.out]
  refine HC.out.mono ?_
  rintro e w2 ⟨rfl, hb2⟩
  have HB2 := Lib.hid (bnext HB.out hb2)
  clear hb2
  go_wp2_with fail
  go_ret
  exact ⟨rfl, HB2.out⟩
/-- Same, every way. -/
theorem psame_any (p : Int) (s : Value) (n : Nat) (f : Nat → Jb) (k : Ac) (p' : Int) (s' : Value) (n' : Nat) (f' : Nat → Jb) (k' : Ac) (w : World) (h : Jobs w s n f) (h' : Jobs w s' n' f') :
    Calls Tryd.prog 18 #[tV p s k, tV p' s' k'] w fun e w' => e = .returned (.bool (decide (sameT p n f k p' n' f' k'))) ∧ Below w.heap.size w w' := by
  have H1 := h
  have H2 := h'
  obtain ⟨q, cap, rfl, _, _⟩ := h
  obtain ⟨q', cap', rfl, _, _⟩ := h'
  by_cases hp : p = p'
  · by_cases hk : k = k'
    · subst hp hk
      by_cases hn : n = n'
      · subst hn
        have e : decide (sameT p n f k p n f' k) = decide (∀ i, i < n → f i = f' i) := decide_eq_decide.2 ⟨fun h => h.2.2.2, fun h => ⟨rfl, rfl, rfl, h⟩⟩
        rw [e]
        exact psame_jobs p q q' n n cap cap' k w _ (fun W hb => pequal_jobs _ _ n f f' W (H1.below hb) (H2.below hb))
      · rw [show decide (sameT p n f k p n' f' k) = false from decide_eq_false (fun h => hn h.2.2.1)]
        exact psame_jobs p q q' n n' cap cap' k w _ (fun W hb => pequal_len _ _ n n' f f' W (H1.below hb) (H2.below hb) hn)
    · rw [show decide (sameT p n f k p' n' f' k') = false from decide_eq_false (fun h => hk h.2.1)]
      exact psame_acc p q n cap k p' q' n' cap' k' w hp hk
  · rw [show decide (sameT p n f k p' n' f' k') = false from decide_eq_false (fun h => hp h.1)]
    exact psame_prio p q n cap k p' q' n' cap' k' w hp
end Go.Proofs.YtpfhebfkhailfaaDoor
