/- The document's own task: Same; no condition but those that each row names. -/
import Derived.Test.YtpfhebfkhailfaaDoorQRefA
namespace Go.Proofs.YtpfhebfkhailfaaDoor
open Go.RowKit Tsk

/-- Are two tasks alike? -/
def sameT (p : Int) (n : Nat) (f : Nat → Jb) (k : Ac) (p' : Int) (n' : Nat) (f' : Nat → Jb) (k' : Ac) : Prop := p = p' ∧ k = k' ∧ n = n' ∧ ∀ i, i < n → f i = f' i
theorem neq_ac {g o m d c t g' o' m' d' c' t' : Int} (h : ¬ (⟨g, o, m, d, c, t⟩ : Ac) = ⟨g', o', m', d', c', t'⟩) : ¬ (g = g' ∧ o = o' ∧ m = m' ∧ d = d' ∧ c = c' ∧ t = t') := fun ⟨h1, h2, h3, h4, h5, h6⟩ => h (by rw [h1, h2, h3, h4, h5, h6])
theorem neq_jb {l c a d l' c' a' d' : Int} (h : ¬ (⟨l, c, a, d⟩ : Jb) = ⟨l', c', a', d'⟩) : ¬ (l = l' ∧ c = c' ∧ a = a' ∧ d = d') := fun ⟨h1, h2, h3, h4⟩ => h (by rw [h1, h2, h3, h4])
set_option maxHeartbeats 2000000 in
theorem rsame_acc (p : Int) (q q' : Option Addr) (n n' cap cap' : Nat) (k k' : Ac) (w : World) (hk : ¬ k = k') : Calls Tryd.prog 19 #[tV p (.slice q n cap) k, tV p (.slice q' n' cap') k'] w fun e w' => e = .returned (.bool false) ∧ Below w.heap.size w w' := by
  obtain ⟨kg, ko, kn, kd, kc, kt⟩ := k
  obtain ⟨kg', ko', kn', kd', kc', kt'⟩ := k'
  have hk2 := neq_ac hk
  go_enter Tryd.func19, Tryd.ntmps19
  go_wp2_with fail
  all_goals (go_ret; exact ⟨rfl, (by repeat (first | exact Below.refl _ _ | (with_reducible assumption) | refine Below.drew ?_ | (refine Below.alloc ?_ (by first | exact Nat.le_refl _ | omega | (simp; done) | (simp; omega)) _) | (refine Below.setCell ?_ (by first | omega | (simp; done) | (simp; omega)) _)))⟩)
theorem rsame_prio (p p' : Int) (q q' : Option Addr) (n n' cap cap' : Nat) (k k' : Ac) (w : World) (hp : ¬ p = p') : Calls Tryd.prog 19 #[tV p (.slice q n cap) k, tV p' (.slice q' n' cap') k'] w fun e w' => e = .returned (.bool false) ∧ Below w.heap.size w w' := by
  obtain ⟨kg, ko, kn, kd, kc, kt⟩ := k
  obtain ⟨kg', ko', kn', kd', kc', kt'⟩ := k'
  have hp2 : (p != p') = true := by simpa using hp
  clear hp
  go_enter Tryd.func19, Tryd.ntmps19
  go_wp2_with fail
  go_ret
  exact ⟨rfl, (by repeat (first | exact Below.refl _ _ | (with_reducible assumption) | refine Below.drew ?_ | (refine Below.alloc ?_ (by first | exact Nat.le_refl _ | omega | (simp; done) | (simp; omega)) _) | (refine Below.setCell ?_ (by first | omega | (simp; done) | (simp; omega)) _)))⟩
theorem rsame_len (p : Int) (q q' : Option Addr) (n n' cap cap' : Nat) (k : Ac) (w : World) (hn : ¬ n = n') : Calls Tryd.prog 19 #[tV p (.slice q n cap) k, tV p (.slice q' n' cap') k] w fun e w' => e = .returned (.bool false) ∧ Below w.heap.size w w' := by
  obtain ⟨kg, ko, kn, kd, kc, kt⟩ := k
  have hp2 : ((n : Int) != (n' : Int)) = true := by simp; omega
  have hp3 : (n != n') = true := by simpa using hn
  clear hn
  go_enter Tryd.func19, Tryd.ntmps19
  go_wp2_with fail
  go_ret
  exact ⟨rfl, (by repeat (first | exact Below.refl _ _ | (with_reducible assumption) | refine Below.drew ?_ | (refine Below.alloc ?_ (by first | exact Nat.le_refl _ | omega | (simp; done) | (simp; omega)) _) | (refine Below.setCell ?_ (by first | omega | (simp; done) | (simp; omega)) _)))⟩
set_option maxHeartbeats 2000000 in
theorem rsame_jobs (p : Int) (s s' : Value) (n : Nat) (f f' : Nat → Jb) (k : Ac) (w : World) (h : Jobs w s n f) (h' : Jobs w s' n f') : Calls Tryd.prog 19 #[tV p s k, tV p s' k] w fun e w' => e = .returned (.bool (decide (∀ i, i < n → f i = f' i))) ∧ Below w.heap.size w w' := by
  have HJ := Lib.hid h
  have HJ' := Lib.hid h'
  obtain ⟨q, cap, rfl, hnl, _⟩ := h
  obtain ⟨q', cap', rfl, _, _⟩ := h'
  obtain ⟨WA, hWA⟩ : ∃ WA, WA = (w.alloc (.cells #[.int .i64 p, .slice q n cap, .int .i64 k.g, .int .i64 k.o, .int .i64 k.n, .int .i64 k.d, .int .i64 k.c, .int .i64 k.t] KT)).alloc (.cells #[.int .i64 p, .slice q' n cap', .int .i64 k.g, .int .i64 k.o, .int .i64 k.n, .int .i64 k.d, .int .i64 k.c, .int .i64 k.t] KT) := ⟨_, rfl⟩
  have HB := Lib.hid (show Below w.heap.size w WA from by rw [hWA]; exact ((Below.refl _ _).alloc (Nat.le_refl _) _).alloc (by simp) _)
  have HT := Lib.hid (show HasT WA w.heap.size p (.slice q n cap) k ∧ HasT WA (w.heap.size + 1) p (.slice q' n cap') k from by rw [hWA]; exact ⟨has_old (has_new w _ _ rfl) _, has_new _ _ _ (by simp)⟩)
  have HW := Lib.hid hWA
  obtain ⟨kg, ko, kn, kd, kc, kt⟩ := k
  clear hWA
  go_enter Tryd.func19, Tryd.ntmps19
  go_wp2_with fail
  rw [← HW.out]
  go_loopw [5] (fun iv wr => ∃ i : Nat, iv = .int .i64 i ∧ i ≤ n ∧ Hid (∀ j, j < i → f j = f' j) ∧ Hid (Below WA.heap.size WA wr)) (fun iv _ => n - (intOf iv).toNat)
  case atStart => exact ⟨0, rfl, Nat.zero_le _, Lib.hid (fun j hj => by omega), Lib.hid (Below.refl _ _)⟩
  case round =>
    obtain ⟨i, rfl, hi, HE, HBr⟩ := hrel
    obtain ⟨_, x1, _⟩ := (HT.out.1.below HBr.out).cells
    obtain ⟨_, y1, _⟩ := (HT.out.2.below HBr.out).cells
    have HBw := Lib.hid (bnext HB.out HBr.out)
    by_cases hin : i < n
    · have hin' : (i : Int) < (n : Int) := by omega
      obtain ⟨q0, cap0, e, _, hcl⟩ := HJ.out.below HBw.out
      cases e
      obtain ⟨b, off, rfl, d0, d1, d2, d3⟩ := hcl i hin
      obtain ⟨q1, cap1, e, _, hcl'⟩ := HJ'.out.below HBw.out
      cases e
      obtain ⟨b', off', rfl, e0, e1, e2, e3⟩ := hcl' i hin
      clear hcl hcl'
      by_cases heq : f i = f' i
      · have HE2 := Lib.hid (show ∀ j, j < i + 1 → f j = f' j from fun j hj => by
          rcases Nat.lt_succ_iff_lt_or_eq.1 hj with h | h
          · exact HE.out j h
          · rw [h]; exact heq)
        rw [heq] at d0 d1 d2 d3
        generalize f' i = jb at *
        obtain ⟨l, c, a, d⟩ := jb
        dsimp only at d0 d1 d2 d3 e0 e1 e2 e3
        clear heq
        go_wp2_with fail
        go_quiet (fail)
        have HBq := Lib.hid (below_drewN HBr.out nq)
        go_wp2_with fail
        go_roundw
        case rel => exact ⟨i + 1, by go_num, by omega, HE2, HBq⟩
        case measure => simp [intOf]; omega
      · have HF := Lib.hid (show decide (∀ i, i < n → f i = f' i) = false from decide_eq_false (fun h => heq (h i hin)))
        generalize f i = jb at *
        generalize f' i = jb' at *
        obtain ⟨l, c, a, d⟩ := jb
        obtain ⟨l', c', a', d'⟩ := jb'
        dsimp only at d0 d1 d2 d3 e0 e1 e2 e3
        have hne := neq_jb heq
        clear heq
        by_cases hl : l = l'
        · subst hl
          by_cases hc : c = c'
          · subst hc
            by_cases ha : a = a'
            · subst ha
              have hd : ¬ d = d' := fun h => hne ⟨rfl, rfl, rfl, h⟩
              have z : (d == d') = false := by simpa using hd
              clear hne hd
              go_wp2_with fail
              go_quiet (fail)
              have HBq := Lib.hid (below_drewN HBw.out nq)
              go_wp2_with fail
              go_ret
              exact ⟨ret_bool HF.out.symm, HBq.out⟩
            · have z : (a == a') = false := by simpa using ha
              clear hne ha
              go_wp2_with fail
              go_quiet (fail)
              have HBq := Lib.hid (below_drewN HBw.out nq)
              go_wp2_with fail
              go_ret
              exact ⟨ret_bool HF.out.symm, HBq.out⟩
          · have z : (c == c') = false := by simpa using hc
            clear hne hc
            go_wp2_with fail
            go_quiet (fail)
            have HBq := Lib.hid (below_drewN HBw.out nq)
            go_wp2_with fail
            go_ret
            exact ⟨ret_bool HF.out.symm, HBq.out⟩
        · have z : (l == l') = false := by simpa using hl
          clear hne hl
          go_wp2_with fail
          go_quiet (fail)
          have HBq := Lib.hid (below_drewN HBw.out nq)
          go_wp2_with fail
          go_ret
          exact ⟨ret_bool HF.out.symm, HBq.out⟩
    · have hg3 : decide (i < n) = false := decide_eq_false hin
      obtain rfl : i = n := by omega
      have HF := Lib.hid (show decide (∀ j, j < i → f j = f' j) = true from decide_eq_true HE.out)
      clear hin
      go_wp2_with fail
      go_ret
      exact ⟨ret_bool HF.out.symm, HBw.out⟩
instance (p : Int) (n : Nat) (f : Nat → Jb) (k : Ac) (p' : Int) (n' : Nat) (f' : Nat → Jb) (k' : Ac) : Decidable (sameT p n f k p' n' f' k') := by unfold sameT; infer_instance
/-- Same, every way. -/
theorem rsame_any (p : Int) (s : Value) (n : Nat) (f : Nat → Jb) (k : Ac) (p' : Int) (s' : Value) (n' : Nat) (f' : Nat → Jb) (k' : Ac) (w : World) (h : Jobs w s n f) (h' : Jobs w s' n' f') :
    Calls Tryd.prog 19 #[tV p s k, tV p' s' k'] w fun e w' => e = .returned (.bool (decide (sameT p n f k p' n' f' k'))) ∧ Below w.heap.size w w' := by
  by_cases hp : p = p'
  · subst hp
    by_cases hk : k = k'
    · subst hk
      by_cases hn : n = n'
      · subst hn
        have e : decide (sameT p n f k p n f' k) = decide (∀ i, i < n → f i = f' i) := decide_eq_decide.2 ⟨fun h => h.2.2.2, fun h => ⟨rfl, rfl, rfl, h⟩⟩
        rw [e]
        exact rsame_jobs p s s' n f f' k w h h'
      · rw [show decide (sameT p n f k p n' f' k) = false from decide_eq_false (fun h => hn h.2.2.1)]
        obtain ⟨q, cap, rfl, _, _⟩ := h
        obtain ⟨q', cap', rfl, _, _⟩ := h'
        exact rsame_len p q q' n n' cap cap' k w hn
    · rw [show decide (sameT p n f k p n' f' k') = false from decide_eq_false (fun h => hk h.2.1)]
      obtain ⟨q, cap, rfl, _, _⟩ := h
      obtain ⟨q', cap', rfl, _, _⟩ := h'
      exact rsame_acc p q q' n n' cap cap' k k' w hk
  · rw [show decide (sameT p n f k p' n' f' k') = false from decide_eq_false (fun h => hp h.1)]
    obtain ⟨q, cap, rfl, _, _⟩ := h
    obtain ⟨q', cap', rfl, _, _⟩ := h'
    exact rsame_prio p p' q q' n n' cap cap' k k' w hp
end Go.Proofs.YtpfhebfkhailfaaDoor
