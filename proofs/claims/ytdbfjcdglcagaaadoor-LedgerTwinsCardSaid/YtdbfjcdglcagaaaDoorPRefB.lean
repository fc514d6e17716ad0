/- The document's own book: MayBe, Add; no condition but those that each row names. -/
import Derived.Test.YtdbfjcdglcagaaaDoorPRefA
import Derived.Test.YtdbfjcdglcagaaaDoorPAdd
namespace Go.Proofs.YtdbfjcdglcagaaaDoor
open Go.RowKit Bk

set_option maxHeartbeats 2000000 in
theorem rmaybe (w : World) (a : Ac) : Calls Tryd.prog 34 #[aV a] w fun e w' => e = .returned (.bool (decide (okA a))) ∧ Below w.heap.size w w' := by
  have HO := Lib.hid (ok_prt (a := a))
  have HC := Lib.hid (fun (W : World) (g : Nat) (T : TypeId) (h : Has W g (.cells #[.int .i64 a.g, .int .i64 a.o, .int .i64 a.l, .int .i64 a.d, .int .i64 a.c, .int .i64 a.t] T)) (r : Nat) (hr : r < 6) => show W.cell? ⟨g, r, none⟩ = some (.int .i64 (prt6 a r)) from by
    rw [has_cell h]
    have : r = 0 ∨ r = 1 ∨ r = 2 ∨ r = 3 ∨ r = 4 ∨ r = 5 := by omega
    rcases this with rfl | rfl | rfl | rfl | rfl | rfl <;> rfl)
  obtain ⟨W0, hW0⟩ : ∃ W0, W0 = (w.alloc (.cells #[.int .i64 a.g, .int .i64 a.o, .int .i64 a.l, .int .i64 a.d, .int .i64 a.c, .int .i64 a.t] 34)).alloc (.cells #[.int .i64 a.g, .int .i64 a.o, .int .i64 a.l, .int .i64 a.d, .int .i64 a.c, .int .i64 a.t] 3) := ⟨_, rfl⟩
  have HB := Lib.hid (show Below w.heap.size w W0 from by rw [hW0]; exact (by repeat (first | exact Below.refl _ _ | (with_reducible assumption) | refine Below.drew ?_ | (refine Below.alloc ?_ (by first | exact Nat.le_refl _ | omega | (simp; done) | (simp; omega)) _) | (refine Below.setCell ?_ (by first | omega | (simp; done) | (simp; omega)) _))))
  have HCC := Lib.hid (show ∀ r, r < 6 → W0.cell? ⟨w.heap.size + 1, r, none⟩ = some (.int .i64 (prt6 a r)) from fun r hr => HC.out W0 _ _ (by rw [hW0]; exact has_new _ _ _ (by simp)) r hr)
  have HW := Lib.hid hW0
  clear HC hW0
  go_enter Tryd.func34, Tryd.ntmps34
  go_wp2_with fail
  rw [← HW.out]
  go_loop [4] (fun iv => ∃ k : Nat, iv = .int .i64 k ∧ k ≤ 6 ∧ Hid (∀ r, r < k → okN (prt6 a r))) (fun iv => 6 - (intOf iv).toNat)
  case atStart => exact ⟨0, rfl, Nat.zero_le _, Lib.hid (fun r h => absurd h (Nat.not_lt_zero _))⟩
  case round =>
    obtain ⟨k, rfl, hk6, HQ⟩ := hrel
    by_cases hk : k < 6
    · have hk' : (k : Int) < 6 := by omega
      have c0 := HCC.out k hk
      have HN := Lib.hid (show okN (prt6 a k) → ∀ r, r < k + 1 → okN (prt6 a r) from fun ho r hr => by
        by_cases e : r = k
        · subst e; exact ho
        · exact HQ.out r (by omega))
      have HF := Lib.hid (show ¬ okN (prt6 a k) → decide (okA a) = false from fun ho => decide_eq_false fun hh => ho (HO.out.1 hh k hk))
      generalize prt6 a k = q at c0 HN HF
      by_cases h0 : q < 0
      · have HR := Lib.hid (HF.out (fun hh => by unfold okN at hh; omega))
        clear HF HN HQ
        go_wp2_with fail
        go_ret
        exact ⟨ret_bool HR.out.symm, HB.out⟩
      · by_cases h1 : q > 1073741824
        · have HR := Lib.hid (HF.out (fun hh => by unfold okN at hh; omega))
          clear HF HN HQ
          go_wp2_with fail
          go_ret
          exact ⟨ret_bool HR.out.symm, HB.out⟩
        · have HR := Lib.hid (HN.out ⟨by omega, by omega⟩)
          clear HF HN HQ
          go_wp2_with fail
          go_round
          case rel => exact ⟨k + 1, by go_num, by omega, HR⟩
          case measure => simp [intOf]; omega
    · have e : k = 6 := by omega
      subst e
      have HR := Lib.hid (show decide (okA a) = true from decide_eq_true (HO.out.2 HQ.out))
      clear HQ
      go_wp2_with fail
      go_ret
      exact ⟨ret_bool HR.out.symm, HB.out⟩
end Go.Proofs.YtdbfjcdglcagaaaDoor
