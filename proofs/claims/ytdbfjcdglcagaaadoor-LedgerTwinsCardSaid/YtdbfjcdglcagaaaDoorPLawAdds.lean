/- The law LedgerAdds, walked for every two accounts: it answers true; no condition but that the listed variable holds what the program's text lays in it. -/
import Derived.Test.YtdbfjcdglcagaaaDoorPSure
import Derived.Test.YtdbfjcdglcagaaaDoorPNum
import Derived.Test.YtdbfjcdglcagaaaDoorPRefC
namespace Go.Proofs.YtdbfjcdglcagaaaDoor
open Go.RowKit Bk

/-- The number of an error. -/
theorem num_errV (n : Int) (w : World) (hg : LaidAt w) : Calls Tryd.prog 12 #[errV n] w fun e w' => e = .returned (.int .i64 n) ∧ Below w.heap.size w w' := by
  by_cases h : n = 0
  · subst h; exact num_nil w
  · rw [errV_ne h]; exact num_errno n w hg
set_option maxHeartbeats 2000000 in
set_option maxRecDepth 100000 in
theorem adds_any (a b : Ac) (w : World) (hg : LaidAt w) :
    Calls Tryd.prog 4 #[aV a, aV b] w fun e w' => e = .returned (.bool true) ∧ Below w.heap.size w w' := by
  have HG := Lib.hid hg
  have HP := Lib.hid (fun W => padd W a b)
  have HR := Lib.hid (fun W => radd W a b)
  have HN := Lib.hid (fun W hg => num_errV (addE a b) W hg)
  have HS := Lib.hid sure_any
  generalize addA a b = c at HP HR
  generalize addE a b = n at HP HR HN
  clear hg
  go_enter Tryd.func4, Tryd.ntmps4
  go_wp2_with fail
  refine (HP.out _).mono ?_
  rintro e w1 ⟨rfl, hb1⟩
  have HA1 := Lib.hid (has_below (has_old (has_new _ (.cells #[.int .i64 a.g, .int .i64 a.o, .int .i64 a.l, .int .i64 a.d, .int .i64 a.c, .int .i64 a.t] 34) w.heap.size rfl) _) hb1)
  have HC1 := Lib.hid (has_below (has_new _ (.cells #[.int .i64 b.g, .int .i64 b.o, .int .i64 b.l, .int .i64 b.d, .int .i64 b.c, .int .i64 b.t] 34) (w.heap.size + 1) (by simp)) hb1)
  have HB1 := Lib.hid (bnext (show Below w.heap.size w _ from (by repeat (first | exact Below.refl _ _ | (with_reducible assumption) | refine Below.drew ?_ | (refine Below.alloc ?_ (by first | exact Nat.le_refl _ | omega | (simp; done) | (simp; omega)) _) | (refine Below.setCell ?_ (by first | omega | (simp; done) | (simp; omega)) _)))) hb1)
  clear hb1
  generalize errV n = ev at HN ⊢
  have hy1 : w.heap.size < w1.heap.size := has_lt HA1.out
  have hy2 : w.heap.size + 1 < w1.heap.size := has_lt HC1.out
  obtain ⟨a0, a1, a2, a3, a4, a5⟩ := acc6 (a := a) HA1.out
  obtain ⟨c0, c1, c2, c3, c4, c5⟩ := acc6 (a := b) HC1.out
  go_wp2_with fail
  refine (HR.out _).mono ?_
  rintro e w2 ⟨rfl, hb2⟩
  have HD2 := Lib.hid (has_below (has_new w1 (.cells #[.int .i64 c.g, .int .i64 c.o, .int .i64 c.l, .int .i64 c.d, .int .i64 c.c, .int .i64 c.t] 34) w1.heap.size rfl) hb2)
  have HB2 := Lib.hid (bnext (below_alloc HB1.out _) hb2)
  clear hb2 a0 a1 a2 a3 a4 a5 c0 c1 c2 c3 c4 c5
  have hy3 : w1.heap.size < w2.heap.size := has_lt HD2.out
  obtain ⟨d0, d1, d2, d3, d4, d5⟩ := acc6 (a := c) HD2.out
  have HB3 := Lib.hid (below_alloc HB2.out (.cells #[.int .i64 c.g, .int .i64 c.o, .int .i64 c.l, .int .i64 c.d, .int .i64 c.c, .int .i64 c.t] 34))
  have HNN := Lib.hid (HN.out _ (HG.out.below HB3.out))
  go_wp2_with fail
  refine HNN.out.mono ?_
  rintro e w5 ⟨rfl, hb5⟩
  have HB5 := Lib.hid (bnext HB3.out hb5)
  clear hb5
  go_wp2_with fail
  refine (HS.out _).mono ?_
  rintro e w6 ⟨rfl, hb6⟩
  have HB6 := Lib.hid (bnext HB5.out hb6)
  clear hb6
  go_wp2_with fail
  go_ret
  exact ⟨rfl, HB6.out⟩
end Go.Proofs.YtdbfjcdglcagaaaDoor
