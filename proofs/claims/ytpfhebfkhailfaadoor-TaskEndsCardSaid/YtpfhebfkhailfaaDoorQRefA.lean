/- The document's own task: within, job, New, Ready, Valid; no condition but those that each row names. -/
import Derived.Test.YtpfhebfkhailfaaDoorQMem
namespace Go.Proofs.YtpfhebfkhailfaaDoor
open Go.RowKit Tsk

theorem rwithin (n m : Int) (w : World) : Calls Tryd.prog 39 #[.int .i64 n, .int .i64 m] w fun e w' => e = .returned (.bool (decide (0 ≤ n ∧ n ≤ m))) ∧ w = w' := by
  by_cases h1 : 0 ≤ n
  · by_cases h2 : n ≤ m
    · have h3 : decide (0 ≤ n ∧ n ≤ m) = true := decide_eq_true ⟨h1, h2⟩
      rw [h3]
      clear h3
      go_enter Tryd.func39, Tryd.ntmps39
      go_wp2
      go_ret
      exact ⟨rfl, rfl⟩
    · have h3 : decide (0 ≤ n ∧ n ≤ m) = false := decide_eq_false (fun h => h2 h.2)
      rw [h3]
      clear h3
      have h4 : decide (n ≤ m) = false := decide_eq_false h2
      go_enter Tryd.func39, Tryd.ntmps39
      go_wp2
      go_ret
      exact ⟨rfl, rfl⟩
  · have h3 : decide (0 ≤ n ∧ n ≤ m) = false := decide_eq_false (fun h => h1 h.1)
    rw [h3]
    clear h3
    have h4 : decide (0 ≤ n) = false := decide_eq_false h1
    go_enter Tryd.func39, Tryd.ntmps39
    go_wp2
    go_ret
    exact ⟨rfl, rfl⟩
theorem okJ_mk (l c a d : Int) : okJ ⟨l, c, a, d⟩ ↔ (1 ≤ l ∧ l ≤ 1048576) ∧ (0 ≤ c ∧ c ≤ 1048576) ∧ (0 ≤ a ∧ a ≤ 1073741824) ∧ (0 ≤ d ∧ d ≤ 1073741824) := Iff.rfl
set_option maxHeartbeats 1000000 in
theorem rjob (j : Jb) (w : World) : Calls Tryd.prog 40 #[jV j] w fun e w' => e = .returned (.bool (decide (okJ j))) ∧ Below w.heap.size w w' := by
  obtain ⟨l, c, a, d⟩ := j
  have HB := Lib.hid (show Below w.heap.size w (w.alloc (.cells #[.int .i64 l, .int .i64 c, .int .i64 a, .int .i64 d] JT)) from (Below.refl _ _).alloc (Nat.le_refl _) _)
  go_enter Tryd.func40, Tryd.ntmps40
  go_wp2_with (go_at_call 39; refine (rwithin _ _ _).mono ?_; rintro e w1 ⟨rfl, rfl⟩)
  all_goals (go_ret; exact ⟨ret_bool (by first | exact (decide_eq_false (by rw [okJ_mk]; omega)).symm | exact (decide_eq_true (by rw [okJ_mk]; omega)).symm | (have e : okJ ⟨l, c, a, d⟩ ↔ (0 ≤ d ∧ d ≤ 1073741824) := (by rw [okJ_mk]; omega)); simp [e]), HB.out⟩)
theorem rnew_ok (p : Int) (w : World) (h : 0 ≤ p ∧ p ≤ 31) : Calls Tryd.prog 11 #[.int .i64 p] w fun e w' => e = .returned (.tuple #[tV p (.slice none 0 0) ⟨0, 0, 0, 0, 0, 0⟩, .int .i64 0]) ∧ Below w.heap.size w w' := by
  obtain ⟨h1, h2⟩ := h
  go_enter Tryd.func11, Tryd.ntmps11
  go_wp2
  exact bodyPost_ret (v := .tuple #[tV p (.slice none 0 0) ⟨0, 0, 0, 0, 0, 0⟩, .int .i64 0]) (by simp [results, Tryd.results11, go_sem]) rfl ⟨rfl, (by repeat (first | exact Below.refl _ _ | (with_reducible assumption) | refine Below.drew ?_ | (refine Below.alloc ?_ (by first | exact Nat.le_refl _ | omega | (simp; done) | (simp; omega)) _) | (refine Below.setCell ?_ (by first | omega | (simp; done) | (simp; omega)) _)))⟩
theorem rnew_no (p : Int) (w : World) (h : ¬ (0 ≤ p ∧ p ≤ 31)) : Calls Tryd.prog 11 #[.int .i64 p] w fun e w' => e = .returned (.tuple #[tV 0 (.slice none 0 0) ⟨0, 0, 0, 0, 0, 0⟩, .int .i64 2]) ∧ Below w.heap.size w w' := by
  by_cases h1 : p < 0
  · clear h
    go_enter Tryd.func11, Tryd.ntmps11
    go_wp2
    exact bodyPost_ret (v := .tuple #[tV 0 (.slice none 0 0) ⟨0, 0, 0, 0, 0, 0⟩, .int .i64 2]) (by simp [results, Tryd.results11, go_sem]) rfl ⟨rfl, (by repeat (first | exact Below.refl _ _ | (with_reducible assumption) | refine Below.drew ?_ | (refine Below.alloc ?_ (by first | exact Nat.le_refl _ | omega | (simp; done) | (simp; omega)) _) | (refine Below.setCell ?_ (by first | omega | (simp; done) | (simp; omega)) _)))⟩
  · have h2 : 31 < p := by omega
    have h3 : decide (p < 0) = false := decide_eq_false h1
    clear h
    go_enter Tryd.func11, Tryd.ntmps11
    go_wp2
    exact bodyPost_ret (v := .tuple #[tV 0 (.slice none 0 0) ⟨0, 0, 0, 0, 0, 0⟩, .int .i64 2]) (by simp [results, Tryd.results11, go_sem]) rfl ⟨rfl, (by repeat (first | exact Below.refl _ _ | (with_reducible assumption) | refine Below.drew ?_ | (refine Below.alloc ?_ (by first | exact Nat.le_refl _ | omega | (simp; done) | (simp; omega)) _) | (refine Below.setCell ?_ (by first | omega | (simp; done) | (simp; omega)) _)))⟩
theorem rready (p : Int) (s : Option Addr) (n cap : Nat) (k : Ac) (w : World) : Calls Tryd.prog 27 #[tV p (.slice s n cap) k] w fun e w' => e = .returned (.bool (decide (0 < n))) ∧ Below w.heap.size w w' := by
  go_enter Tryd.func27, Tryd.ntmps27
  go_wp2
  go_ret
  exact ⟨rfl, (Below.refl _ _).alloc (Nat.le_refl _) _⟩
/-- A task's block, an account's block. -/
def HasT (W : World) (g : Nat) (p : Int) (s : Value) (k : Ac) : Prop := Has W g (.cells #[.int .i64 p, s, .int .i64 k.g, .int .i64 k.o, .int .i64 k.n, .int .i64 k.d, .int .i64 k.c, .int .i64 k.t] KT (0, 0))
theorem HasT.below {W W' : World} {g : Nat} {p : Int} {s : Value} {k : Ac} (h : HasT W g p s k) (hb : Below W.heap.size W W') : HasT W' g p s k := (hb.block g (has_lt h)).trans h
theorem HasT.cells {W : World} {g : Nat} {p : Int} {s : Value} {k : Ac} (h : HasT W g p s k) :
    W.cell? ⟨g, 0, none⟩ = some (.int .i64 p) ∧ W.cell? ⟨g, 1, none⟩ = some s ∧ W.cell? ⟨g, 2, none⟩ = some (.int .i64 k.g) ∧ W.cell? ⟨g, 3, none⟩ = some (.int .i64 k.o) ∧ W.cell? ⟨g, 4, none⟩ = some (.int .i64 k.n) ∧ W.cell? ⟨g, 5, none⟩ = some (.int .i64 k.d) ∧ W.cell? ⟨g, 6, none⟩ = some (.int .i64 k.c) ∧ W.cell? ⟨g, 7, none⟩ = some (.int .i64 k.t) :=
  ⟨(has_cell h 0).trans rfl, (has_cell h 1).trans rfl, (has_cell h 2).trans rfl, (has_cell h 3).trans rfl, (has_cell h 4).trans rfl, (has_cell h 5).trans rfl, (has_cell h 6).trans rfl, (has_cell h 7).trans rfl⟩
theorem okA_mk (g o n d c t : Int) : okA ⟨g, o, n, d, c, t⟩ ↔ ((0 ≤ g ∧ g ≤ 1073741824) ∧ o = g ∧ n = 0) ∧ (0 ≤ d ∧ d ≤ g) ∧ (0 ≤ c ∧ c ≤ g - d) ∧ (0 ≤ t ∧ t ≤ d + c) := Iff.rfl
theorem ok_no {p : Int} {n : Nat} {f : Nat → Jb} {k : Ac} (h : ¬ okT p n f k) : validE p n f k = 270 := if_neg h
theorem ok_yes {p : Int} {n : Nat} {f : Nat → Jb} {k : Ac} (h : okT p n f k) : validE p n f k = 0 := if_pos h
set_option maxHeartbeats 1000000 in
theorem rvalid (p : Int) (s : Value) (n : Nat) (f : Nat → Jb) (k : Ac) (w : World) (h : Jobs w s n f) : Calls Tryd.prog 15 #[tV p s k] w fun e w' => e = .returned (.int .i64 (validE p n f k)) ∧ Below w.heap.size w w' := by
  have HJ := Lib.hid h
  obtain ⟨q, cap, rfl, hn, _⟩ := h
  obtain ⟨kg, ko, kn, kd, kc, kt⟩ := k
  have HB0 := Lib.hid (show Below w.heap.size w ((w.alloc (.cells #[.int .i64 p, .slice q n cap, .int .i64 kg, .int .i64 ko, .int .i64 kn, .int .i64 kd, .int .i64 kc, .int .i64 kt] KT)).alloc (.cells #[.int .i64 kg, .int .i64 ko, .int .i64 kn, .int .i64 kd, .int .i64 kc, .int .i64 kt] 24)) from ((Below.refl _ _).alloc (Nat.le_refl _) _).alloc (by simp) _)
  by_cases hp : 0 ≤ p ∧ p ≤ 31
  · by_cases hn8 : n ≤ 8
    · have hn8' : (n : Int) ≤ 8 := by omega
      have hn8b : decide ((8 : Int) < (n : Int)) = false := decide_eq_false (by omega)
      have hn8c : decide (8 < n) = false := decide_eq_false (by omega)
      go_enter Tryd.func15, Tryd.ntmps15
      go_wp2_with (go_at_call 39; refine (rwithin _ _ _).mono ?_; rintro e w1 ⟨rfl, rfl⟩; rw [decide_eq_true hp])
      have HT0 := Lib.hid (show HasT ((w.alloc (.cells #[.int .i64 p, .slice q n cap, .int .i64 kg, .int .i64 ko, .int .i64 kn, .int .i64 kd, .int .i64 kc, .int .i64 kt] KT)).alloc (.cells #[.int .i64 kg, .int .i64 ko, .int .i64 kn, .int .i64 kd, .int .i64 kc, .int .i64 kt] 24)) w.heap.size p (.slice q n cap) ⟨kg, ko, kn, kd, kc, kt⟩ ∧ Has ((w.alloc (.cells #[.int .i64 p, .slice q n cap, .int .i64 kg, .int .i64 ko, .int .i64 kn, .int .i64 kd, .int .i64 kc, .int .i64 kt] KT)).alloc (.cells #[.int .i64 kg, .int .i64 ko, .int .i64 kn, .int .i64 kd, .int .i64 kc, .int .i64 kt] 24)) (w.heap.size + 1) (.cells #[.int .i64 kg, .int .i64 ko, .int .i64 kn, .int .i64 kd, .int .i64 kc, .int .i64 kt] 24 (0, 0)) from ⟨has_old (has_new w _ _ rfl) _, has_new _ _ _ (by simp)⟩)
      generalize ((w.alloc (.cells #[.int .i64 p, .slice q n cap, .int .i64 kg, .int .i64 ko, .int .i64 kn, .int .i64 kd, .int .i64 kc, .int .i64 kt] KT)).alloc (.cells #[.int .i64 kg, .int .i64 ko, .int .i64 kn, .int .i64 kd, .int .i64 kc, .int .i64 kt] 24)) = W at *
      go_loopw [4] (fun iv wr => ∃ k : Nat, iv = .int .i64 k ∧ k ≤ n ∧ Hid (∀ j, j < k → okJ (f j)) ∧ Hid (Below W.heap.size W wr)) (fun iv _ => n - (intOf iv).toNat)
      case atStart => exact ⟨0, rfl, Nat.zero_le _, Lib.hid (fun j hj => by omega), Lib.hid (Below.refl _ _)⟩
      case round =>
        obtain ⟨k, rfl, hk, HO, HB⟩ := hrel
        have HBw := Lib.hid (bnext HB0.out HB.out)
        obtain ⟨_, c1, _⟩ := (HT0.out.1.below HB.out).cells
        by_cases hkn : k < n
        · have hkn' : (k : Int) < (n : Int) := by omega
          obtain ⟨q', cap', e, _, hcl⟩ := HJ.out.below HBw.out
          cases e
          obtain ⟨b, off, rfl, d0, d1, d2, d3⟩ := hcl k hkn
          clear hcl
          have HRJ := Lib.hid (rjob (f k))
          by_cases hok : okJ (f k)
          · have HO2 := Lib.hid (show ∀ j, j < k + 1 → okJ (f j) from fun j hj => by
              rcases Nat.lt_succ_iff_lt_or_eq.1 hj with h | h
              · exact HO.out j h
              · rw [h]; exact hok)
            rw [decide_eq_true hok] at HRJ
            generalize f k = jb at *
            obtain ⟨jl, jc, ja, jd⟩ := jb
            clear hok
            go_wp2_with fail
            refine (HRJ.out _).mono ?_
            rintro e w2 ⟨rfl, hb2⟩
            have HB2 := Lib.hid (bnext HB.out hb2)
            clear hb2
            go_wp2_with fail
            go_roundw
            case rel => exact ⟨k + 1, by go_num, by omega, HO2, HB2⟩
            case measure => simp [intOf]; omega
          · have hE := ok_no (p := p) (n := n) (f := f) (k := ⟨kg, ko, kn, kd, kc, kt⟩) (fun h => hok (h.2.2.1 k hkn))
            have HE := Lib.hid hE
            rw [decide_eq_false hok] at HRJ
            generalize f k = jb at *
            obtain ⟨jl, jc, ja, jd⟩ := jb
            clear hok hE
            go_wp2_with fail
            refine (HRJ.out _).mono ?_
            rintro e w2 ⟨rfl, hb2⟩
            have HB2 := Lib.hid (bnext HBw.out hb2)
            clear hb2
            go_wp2_with fail
            go_ret
            exact ⟨ret_int HE.out.symm, HB2.out⟩
        · have hg3 : decide (k < n) = false := decide_eq_false hkn
          have hA := (HB.out.block _ (has_lt HT0.out.2)).trans HT0.out.2
          have a0 : wr.cell? ⟨w.heap.size + 1, 0, none⟩ = some (.int .i64 kg) := (has_cell hA 0).trans rfl
          have a1 : wr.cell? ⟨w.heap.size + 1, 1, none⟩ = some (.int .i64 ko) := (has_cell hA 1).trans rfl
          have a2 : wr.cell? ⟨w.heap.size + 1, 2, none⟩ = some (.int .i64 kn) := (has_cell hA 2).trans rfl
          have a3 : wr.cell? ⟨w.heap.size + 1, 3, none⟩ = some (.int .i64 kd) := (has_cell hA 3).trans rfl
          have a4 : wr.cell? ⟨w.heap.size + 1, 4, none⟩ = some (.int .i64 kc) := (has_cell hA 4).trans rfl
          have a5 : wr.cell? ⟨w.heap.size + 1, 5, none⟩ = some (.int .i64 kt) := (has_cell hA 5).trans rfl
          clear hA
          by_cases ha : okA ⟨kg, ko, kn, kd, kc, kt⟩
          · have HV := Lib.hid (show validE p n f ⟨kg, ko, kn, kd, kc, kt⟩ = 0 from if_pos ⟨hp, hn8, fun i hi => HO.out i (by omega), ha⟩)
            obtain ⟨⟨b1, rfl, rfl⟩, b2, b3, b4⟩ := (okA_mk _ _ _ _ _ _).1 ha
            have w1 : IntKind.i64.wrap (ko - kd) = ko - kd := IntWalk.i64_in _ (by omega)
            have w2 : IntKind.i64.wrap (kd + kc) = kd + kc := IntWalk.i64_in _ (by omega)
            clear hkn ha
            go_wp2_with (go_at_call 39; refine (rwithin _ _ _).mono ?_; rintro e w1 ⟨rfl, rfl⟩; rw [decide_eq_true (by assumption)])
            go_ret
            exact ⟨ret_int HV.out.symm, HBw.out⟩
          · have HV := Lib.hid (show validE p n f ⟨kg, ko, kn, kd, kc, kt⟩ = 270 from if_neg fun h => ha h.2.2.2)
            rw [okA_mk] at ha
            have HA := Lib.hid ha
            clear hkn ha
            by_cases z0 : kn = 0
            · subst z0
              go_wp2_with (go_at_call 39; refine (rwithin _ _ _).mono ?_; rintro e w1 ⟨rfl, rfl⟩)
              all_goals (first | (go_ret; exact ⟨ret_int HV.out.symm, HBw.out⟩) | (rename_i hx; simp only [Bool.not_eq_false', decide_eq_true_eq] at hx; exfalso; have h5 := HA.out; simp only [and_true] at h5; omega))
            · have z1 : (kn != 0) = true := by simpa using z0
              clear z0
              go_wp2_with (go_at_call 39; refine (rwithin _ _ _).mono ?_; rintro e w1 ⟨rfl, rfl⟩)
              all_goals (go_ret; exact ⟨ret_int HV.out.symm, HBw.out⟩)
    · have hE := ok_no (p := p) (n := n) (f := f) (k := ⟨kg, ko, kn, kd, kc, kt⟩) (fun h => hn8 h.2.1)
      rw [hE]
      have hn8' : (8 : Int) < (n : Int) := by omega
      clear hE hn8
      go_enter Tryd.func15, Tryd.ntmps15
      go_wp2_with (go_at_call 39; refine (rwithin _ _ _).mono ?_; rintro e w1 ⟨rfl, rfl⟩; rw [decide_eq_true hp])
      go_ret
      exact ⟨rfl, HB0.out⟩
  · have hE := ok_no (p := p) (n := n) (f := f) (k := ⟨kg, ko, kn, kd, kc, kt⟩) (fun h => hp h.1)
    rw [hE]
    clear hE
    go_enter Tryd.func15, Tryd.ntmps15
    go_wp2_with (go_at_call 39; refine (rwithin _ _ _).mono ?_; rintro e w1 ⟨rfl, rfl⟩; rw [decide_eq_false hp])
    go_ret
    exact ⟨rfl, HB0.out⟩
end Go.Proofs.YtpfhebfkhailfaaDoor
