/- The program's sums and tests of accounts: sum, valid, Add; no condition but those that each row names. -/
import Derived.Test.YtdbfjcdglcagaaaDoorPProg
namespace Go.Proofs.YtdbfjcdglcagaaaDoor
open Go.RowKit Go.Maps Bk

set_option maxHeartbeats 1000000 in
theorem psum (w : World) (a b : Ac) : Calls Tryd.prog 33 #[aV a, aV b] w fun e w' => e = .returned (aV (sumA a b)) ∧ Below w.heap.size w w' := by
  go_enter Tryd.func33, Tryd.ntmps33
  go_wp2_with fail
  refine bodyPost_ret (v := aV (sumA a b)) (by simp [results, Tryd.results33, go_sem, sumA]) rfl ⟨rfl, (by repeat (first | exact Below.refl _ _ | (with_reducible assumption) | refine Below.drew ?_ | (refine Below.alloc ?_ (by first | exact Nat.le_refl _ | omega | (simp; done) | (simp; omega)) _) | (refine Below.setCell ?_ (by first | omega | (simp; done) | (simp; omega)) _)))⟩
def c6 (a : Ac) : List Value := [.int .i64 a.g, .int .i64 a.o, .int .i64 a.l, .int .i64 a.d, .int .i64 a.c, .int .i64 a.t]
def acL (A : List Ac) : List Value := A.flatMap c6
theorem acL_at : ∀ (A : List Ac) (i : Nat) (h : i < A.length) (r : Nat), r < 6 → (acL A)[i * 6 + r]? = (c6 A[i])[r]?
  | [], i, h, _, _ => by simp at h
  | x :: s, 0, _, r, hr => by
    have e : acL (x :: s) = c6 x ++ acL s := rfl
    rw [e, Nat.zero_mul, Nat.zero_add, List.getElem?_append_left (by simpa [c6] using hr)]
    rfl
  | x :: s, i + 1, h, r, hr => by
    have e : acL (x :: s) = c6 x ++ acL s := rfl
    have ih := acL_at s i (by simpa using h) r hr
    have hl : (c6 x).length = 6 := rfl
    rw [e, List.getElem?_append_right (by rw [hl]; omega), hl, show (i + 1) * 6 + r - 6 = i * 6 + r by omega, ih]
    rfl
/-- The parts of an account. -/
def prt6 (a : Ac) (r : Nat) : Int := if r = 0 then a.g else if r = 1 then a.o else if r = 2 then a.l else if r = 3 then a.d else if r = 4 then a.c else a.t
theorem ok_prt {a : Ac} : okA a ↔ ∀ r, r < 6 → okN (prt6 a r) := by
  constructor
  · rintro ⟨h0, h1, h2, h3, h4, h5⟩ r hr
    have : r = 0 ∨ r = 1 ∨ r = 2 ∨ r = 3 ∨ r = 4 ∨ r = 5 := by omega
    rcases this with rfl | rfl | rfl | rfl | rfl | rfl <;> assumption
  · intro h
    exact ⟨h 0 (by omega), h 1 (by omega), h 2 (by omega), h 3 (by omega), h 4 (by omega), h 5 (by omega)⟩
theorem idx6_0 (q : Nat → Int) (w : World) : (Instr.index 101 (.agg #[.int .i64 (q 0), .int .i64 (q 1), .int .i64 (q 2), .int .i64 (q 3), .int .i64 (q 4), .int .i64 (q 5)]) (.int .i64 0)).run Tryd.prog w = .ok (.int .i64 (q 0)) w := by kernel_rfl
theorem idx6_1 (q : Nat → Int) (w : World) : (Instr.index 101 (.agg #[.int .i64 (q 0), .int .i64 (q 1), .int .i64 (q 2), .int .i64 (q 3), .int .i64 (q 4), .int .i64 (q 5)]) (.int .i64 1)).run Tryd.prog w = .ok (.int .i64 (q 1)) w := by kernel_rfl
theorem idx6_2 (q : Nat → Int) (w : World) : (Instr.index 101 (.agg #[.int .i64 (q 0), .int .i64 (q 1), .int .i64 (q 2), .int .i64 (q 3), .int .i64 (q 4), .int .i64 (q 5)]) (.int .i64 2)).run Tryd.prog w = .ok (.int .i64 (q 2)) w := by kernel_rfl
theorem idx6_3 (q : Nat → Int) (w : World) : (Instr.index 101 (.agg #[.int .i64 (q 0), .int .i64 (q 1), .int .i64 (q 2), .int .i64 (q 3), .int .i64 (q 4), .int .i64 (q 5)]) (.int .i64 3)).run Tryd.prog w = .ok (.int .i64 (q 3)) w := by kernel_rfl
theorem idx6_4 (q : Nat → Int) (w : World) : (Instr.index 101 (.agg #[.int .i64 (q 0), .int .i64 (q 1), .int .i64 (q 2), .int .i64 (q 3), .int .i64 (q 4), .int .i64 (q 5)]) (.int .i64 4)).run Tryd.prog w = .ok (.int .i64 (q 4)) w := by kernel_rfl
theorem idx6_5 (q : Nat → Int) (w : World) : (Instr.index 101 (.agg #[.int .i64 (q 0), .int .i64 (q 1), .int .i64 (q 2), .int .i64 (q 3), .int .i64 (q 4), .int .i64 (q 5)]) (.int .i64 5)).run Tryd.prog w = .ok (.int .i64 (q 5)) w := by kernel_rfl
set_option maxHeartbeats 2000000 in
set_option maxRecDepth 100000 in
theorem pvalid (w : World) (A : List Ac) (g : Nat) (T : TypeId) (hA : Has w g (.cells (acL A).toArray T)) (hl : A.length ≤ 4) :
    Calls Tryd.prog 32 #[.slice (some ⟨g, 0, none⟩) A.length A.length] w fun e w' => e = .returned (.bool (decide (∀ a ∈ A, okA a))) ∧ Below w.heap.size w w' := by
  have HC := Lib.hid (show ∀ W, Below w.heap.size w W → ∀ i (h : i < A.length) r, r < 6 → W.cell? ⟨g, i * 6 + r, none⟩ = some (.int .i64 (prt6 A[i] r)) from fun W hb i h r hr => by
    rw [has_cell ((hb.block g (has_lt hA)).trans hA)]
    simp only [List.getElem?_toArray]
    rw [acL_at A i h r hr]
    have : r = 0 ∨ r = 1 ∨ r = 2 ∨ r = 3 ∨ r = 4 ∨ r = 5 := by omega
    rcases this with rfl | rfl | rfl | rfl | rfl | rfl <;> rfl)
  clear hA
  go_enter Tryd.func32, Tryd.ntmps32
  go_wp2_with fail
  go_loopw [9] (fun iv wr => ∃ i : Nat, iv = .int .i64 i ∧ i ≤ A.length ∧ Hid (∀ j (h : j < A.length), j < i → okA A[j]) ∧ Hid (Below w.heap.size w wr)) (fun iv _ => A.length - (intOf iv).toNat)
  case atStart => exact ⟨0, rfl, Nat.zero_le _, Lib.hid (fun j _ h => absurd h (Nat.not_lt_zero _)), Lib.hid (Below.refl _ _)⟩
  case round =>
    obtain ⟨i, rfl, hi, HK, HB⟩ := hrel
    by_cases hin : i < A.length
    · have hin' : (i : Int) < (A.length : Int) := by omega
      have c := HC.out wr HB.out i hin
      have c0 := c 0 (by omega); have c1 := c 1 (by omega); have c2 := c 2 (by omega); have c3 := c 3 (by omega); have c4 := c 4 (by omega); have c5 := c 5 (by omega)
      simp only [Nat.add_zero] at c0
      have HO := Lib.hid (ok_prt (a := A[i]))
      have HS := Lib.hid (show okA A[i] → ∀ j (h : j < A.length), j < i + 1 → okA A[j] from fun ho j h hj => by
        by_cases e : j = i
        · subst e; exact ho
        · exact HK.out j h (by omega))
      have HF := Lib.hid (show ¬ okA A[i] → decide (∀ a ∈ A, okA a) = false from fun ho => decide_eq_false fun hh => ho (hh _ (List.getElem_mem hin)))
      have HB' := Lib.hid (Below.alloc HB.out HB.out.size (.cells #[.int .i64 (prt6 A[i] 0), .int .i64 (prt6 A[i] 1), .int .i64 (prt6 A[i] 2), .int .i64 (prt6 A[i] 3), .int .i64 (prt6 A[i] 4), .int .i64 (prt6 A[i] 5)] 34))
      generalize prt6 A[i] = q at c0 c1 c2 c3 c4 c5 HO HB'
      generalize okA A[i] = ok at HO HS HF
      clear c HK
      go_wp2_with fail
      go_loopw [26] (fun kv wq => ∃ k : Nat, kv = .int .i64 k ∧ k ≤ 6 ∧ Hid (∀ r, r < k → okN (q r)) ∧ Hid (Below w.heap.size w wq)) (fun kv _ => 6 - (intOf kv).toNat)
      case atStart => exact ⟨0, rfl, Nat.zero_le _, Lib.hid (fun r h => absurd h (Nat.not_lt_zero _)), HB'⟩
      case round =>
        obtain ⟨k, rfl, hk6, HQ, HBq⟩ := hrel
        by_cases hk : k < 6
        · have HN := Lib.hid (show okN (q k) → ∀ r, r < k + 1 → okN (q r) from fun ho r hr => by
            by_cases e : r = k
            · subst e; exact ho
            · exact HQ.out r (by omega))
          have HF2 := Lib.hid (show ¬ okN (q k) → decide (∀ a ∈ A, okA a) = false from fun ho => HF.out fun hok => ho (HO.out.1 hok k hk))
          have hall : k = 0 ∨ k = 1 ∨ k = 2 ∨ k = 3 ∨ k = 4 ∨ k = 5 := by omega
          clear c0 c1 c2 c3 c4 c5
          rcases hall with rfl | rfl | rfl | rfl | rfl | rfl
          all_goals clear HQ HB' HC HS
          · have hix := idx6_0 q
            by_cases h0 : q 0 < 0
            · have HR := Lib.hid (HF2.out (fun hh => by unfold okN at hh; omega))
              go_wp2_with fail
              go_ret
              exact ⟨ret_bool HR.out.symm, HBq.out⟩
            · by_cases h1 : q 0 > 1073741824
              · have HR := Lib.hid (HF2.out (fun hh => by unfold okN at hh; omega))
                go_wp2_with fail
                go_ret
                exact ⟨ret_bool HR.out.symm, HBq.out⟩
              · have HR := Lib.hid (HN.out ⟨by omega, by omega⟩)
                go_wp2_with fail
                go_roundw
                case rel => exact ⟨1, rfl, by omega, HR, HBq⟩
                case measure => simp [intOf]
          · have hix := idx6_1 q
            by_cases h0 : q 1 < 0
            · have HR := Lib.hid (HF2.out (fun hh => by unfold okN at hh; omega))
              go_wp2_with fail
              go_ret
              exact ⟨ret_bool HR.out.symm, HBq.out⟩
            · by_cases h1 : q 1 > 1073741824
              · have HR := Lib.hid (HF2.out (fun hh => by unfold okN at hh; omega))
                go_wp2_with fail
                go_ret
                exact ⟨ret_bool HR.out.symm, HBq.out⟩
              · have HR := Lib.hid (HN.out ⟨by omega, by omega⟩)
                go_wp2_with fail
                go_roundw
                case rel => exact ⟨2, rfl, by omega, HR, HBq⟩
                case measure => simp [intOf]
          · have hix := idx6_2 q
            by_cases h0 : q 2 < 0
            · have HR := Lib.hid (HF2.out (fun hh => by unfold okN at hh; omega))
              go_wp2_with fail
              go_ret
              exact ⟨ret_bool HR.out.symm, HBq.out⟩
            · by_cases h1 : q 2 > 1073741824
              · have HR := Lib.hid (HF2.out (fun hh => by unfold okN at hh; omega))
                go_wp2_with fail
                go_ret
                exact ⟨ret_bool HR.out.symm, HBq.out⟩
              · have HR := Lib.hid (HN.out ⟨by omega, by omega⟩)
                go_wp2_with fail
                go_roundw
                case rel => exact ⟨3, rfl, by omega, HR, HBq⟩
                case measure => simp [intOf]
          · have hix := idx6_3 q
            by_cases h0 : q 3 < 0
            · have HR := Lib.hid (HF2.out (fun hh => by unfold okN at hh; omega))
              go_wp2_with fail
              go_ret
              exact ⟨ret_bool HR.out.symm, HBq.out⟩
            · by_cases h1 : q 3 > 1073741824
              · have HR := Lib.hid (HF2.out (fun hh => by unfold okN at hh; omega))
                go_wp2_with fail
                go_ret
                exact ⟨ret_bool HR.out.symm, HBq.out⟩
              · have HR := Lib.hid (HN.out ⟨by omega, by omega⟩)
                go_wp2_with fail
                go_roundw
                case rel => exact ⟨4, rfl, by omega, HR, HBq⟩
                case measure => simp [intOf]
          · have hix := idx6_4 q
            by_cases h0 : q 4 < 0
            · have HR := Lib.hid (HF2.out (fun hh => by unfold okN at hh; omega))
              go_wp2_with fail
              go_ret
              exact ⟨ret_bool HR.out.symm, HBq.out⟩
            · by_cases h1 : q 4 > 1073741824
              · have HR := Lib.hid (HF2.out (fun hh => by unfold okN at hh; omega))
                go_wp2_with fail
                go_ret
                exact ⟨ret_bool HR.out.symm, HBq.out⟩
              · have HR := Lib.hid (HN.out ⟨by omega, by omega⟩)
                go_wp2_with fail
                go_roundw
                case rel => exact ⟨5, rfl, by omega, HR, HBq⟩
                case measure => simp [intOf]
          · have hix := idx6_5 q
            by_cases h0 : q 5 < 0
            · have HR := Lib.hid (HF2.out (fun hh => by unfold okN at hh; omega))
              go_wp2_with fail
              go_ret
              exact ⟨ret_bool HR.out.symm, HBq.out⟩
            · by_cases h1 : q 5 > 1073741824
              · have HR := Lib.hid (HF2.out (fun hh => by unfold okN at hh; omega))
                go_wp2_with fail
                go_ret
                exact ⟨ret_bool HR.out.symm, HBq.out⟩
              · have HR := Lib.hid (HN.out ⟨by omega, by omega⟩)
                go_wp2_with fail
                go_roundw
                case rel => exact ⟨6, rfl, by omega, HR, HBq⟩
                case measure => simp [intOf]
        · have e : k = 6 := by omega
          subst e
          have HQ6 := Lib.hid (HS.out (HO.out.2 HQ.out))
          clear HQ HS HO HF c0 c1 c2 c3 c4 c5 HB'
          go_wp2_with fail
          go_roundw
          case rel => exact ⟨i + 1, by go_num, by omega, HQ6, HBq⟩
          case measure => simp [intOf]; omega
    · have hd : decide (i < A.length) = false := decide_eq_false hin
      have HT2 := Lib.hid (show decide (∀ a ∈ A, okA a) = true from decide_eq_true fun a ha => by
        obtain ⟨j, hj, rfl⟩ := List.getElem_of_mem ha
        exact HK.out j hj (by omega))
      clear HK
      go_wp2_with fail
      go_ret
      exact ⟨ret_bool HT2.out.symm, HB.out⟩
end Go.Proofs.YtdbfjcdglcagaaaDoor
