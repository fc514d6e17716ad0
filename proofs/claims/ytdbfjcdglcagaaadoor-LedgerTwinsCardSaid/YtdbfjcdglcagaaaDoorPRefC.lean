/- The document's own book: Add; no condition but those that each row names. -/
import Derived.Test.YtdbfjcdglcagaaaDoorPRefB
import Derived.Test.YtdbfjcdglcagaaaDoorPLoad
namespace Go.Proofs.YtdbfjcdglcagaaaDoor
open Go.RowKit Bk

set_option maxHeartbeats 2000000 in
set_option maxRecDepth 100000 in
theorem radd_arg1 (w : World) (a b : Ac) (h : ¬ okA a) :
    Calls Tryd.prog 17 #[aV a, aV b] w fun e w' => e = .returned (.tuple #[aV z6, .int .i64 1]) ∧ Below w.heap.size w w' := by
  have HV := Lib.hid (fun W => (rmaybe W a))
  rw [decide_eq_false h] at HV
  clear h
  go_enter Tryd.func17, Tryd.ntmps17
  go_wp2_with fail
  refine (HV.out _).mono ?_
  rintro e w1 ⟨rfl, hb1⟩
  have HR1 := Lib.hid (has_below (has_new _ (.cells #[.int .i64 0, .int .i64 0, .int .i64 0, .int .i64 0, .int .i64 0, .int .i64 0] 34) (w.heap.size + 1 + 1) (by simp)) hb1)
  have HA1 := Lib.hid (has_below (has_old (has_old (has_new _ (.cells #[.int .i64 a.g, .int .i64 a.o, .int .i64 a.l, .int .i64 a.d, .int .i64 a.c, .int .i64 a.t] 34) w.heap.size rfl) _) _) hb1)
  have HC1 := Lib.hid (has_below (has_old (has_new _ (.cells #[.int .i64 b.g, .int .i64 b.o, .int .i64 b.l, .int .i64 b.d, .int .i64 b.c, .int .i64 b.t] 34) (w.heap.size + 1) (by simp)) _) hb1)
  have HB1 := Lib.hid (bnext (show Below w.heap.size w _ from (by repeat (first | exact Below.refl _ _ | (with_reducible assumption) | refine Below.drew ?_ | (refine Below.alloc ?_ (by first | exact Nat.le_refl _ | omega | (simp; done) | (simp; omega)) _) | (refine Below.setCell ?_ (by first | omega | (simp; done) | (simp; omega)) _)))) hb1)
  clear hb1
  obtain ⟨f1, d0, d1, d2, d3, d4, d5⟩ := res6 HR1.out
  obtain ⟨a0, a1, a2, a3, a4, a5⟩ := acc6 (a := a) HA1.out
  obtain ⟨c0, c1, c2, c3, c4, c5⟩ := acc6 (a := b) HC1.out
  go_wp2_with fail
  refine bodyPost_ret (v := .tuple #[aV z6, .int .i64 1]) (by simp [results, Tryd.results17, go_sem, d0, d1, d2, d3, d4, d5, z6]) rfl ⟨rfl, ?_⟩
  iterate 6 (refine Below.setCell ?_ (by simp only []; omega) _)
  exact HB1.out
set_option maxHeartbeats 2000000 in
set_option maxRecDepth 100000 in
theorem radd_arg2 (w : World) (a b : Ac) (h : okA a) (h2 : ¬ okA b) :
    Calls Tryd.prog 17 #[aV a, aV b] w fun e w' => e = .returned (.tuple #[aV z6, .int .i64 1]) ∧ Below w.heap.size w w' := by
  have HV := Lib.hid (fun W => (rmaybe W a))
  rw [decide_eq_true h] at HV
  have HV2 := Lib.hid (fun W => (rmaybe W b))
  rw [decide_eq_false h2] at HV2
  clear h h2
  go_enter Tryd.func17, Tryd.ntmps17
  go_wp2_with fail
  refine (HV.out _).mono ?_
  rintro e w1 ⟨rfl, hb1⟩
  have HR1 := Lib.hid (has_below (has_new _ (.cells #[.int .i64 0, .int .i64 0, .int .i64 0, .int .i64 0, .int .i64 0, .int .i64 0] 34) (w.heap.size + 1 + 1) (by simp)) hb1)
  have HA1 := Lib.hid (has_below (has_old (has_old (has_new _ (.cells #[.int .i64 a.g, .int .i64 a.o, .int .i64 a.l, .int .i64 a.d, .int .i64 a.c, .int .i64 a.t] 34) w.heap.size rfl) _) _) hb1)
  have HC1 := Lib.hid (has_below (has_old (has_new _ (.cells #[.int .i64 b.g, .int .i64 b.o, .int .i64 b.l, .int .i64 b.d, .int .i64 b.c, .int .i64 b.t] 34) (w.heap.size + 1) (by simp)) _) hb1)
  have HB1 := Lib.hid (bnext (show Below w.heap.size w _ from (by repeat (first | exact Below.refl _ _ | (with_reducible assumption) | refine Below.drew ?_ | (refine Below.alloc ?_ (by first | exact Nat.le_refl _ | omega | (simp; done) | (simp; omega)) _) | (refine Below.setCell ?_ (by first | omega | (simp; done) | (simp; omega)) _)))) hb1)
  clear hb1
  obtain ⟨f1, d0, d1, d2, d3, d4, d5⟩ := res6 HR1.out
  obtain ⟨a0, a1, a2, a3, a4, a5⟩ := acc6 (a := a) HA1.out
  obtain ⟨c0, c1, c2, c3, c4, c5⟩ := acc6 (a := b) HC1.out
  go_wp2_with fail
  refine (HV2.out _).mono ?_
  rintro e w2 ⟨rfl, hb2⟩
  have HR2 := Lib.hid (has_below HR1.out hb2)
  have HA2 := Lib.hid (has_below HA1.out hb2)
  have HC2 := Lib.hid (has_below HC1.out hb2)
  have HB2 := Lib.hid (bnext HB1.out hb2)
  clear hb2
  clear f1 d0 d1 d2 d3 d4 d5 a0 a1 a2 a3 a4 a5 c0 c1 c2 c3 c4 c5
  obtain ⟨f1, d0, d1, d2, d3, d4, d5⟩ := res6 HR2.out
  obtain ⟨a0, a1, a2, a3, a4, a5⟩ := acc6 (a := a) HA2.out
  obtain ⟨c0, c1, c2, c3, c4, c5⟩ := acc6 (a := b) HC2.out
  go_wp2_with fail
  refine bodyPost_ret (v := .tuple #[aV z6, .int .i64 1]) (by simp [results, Tryd.results17, go_sem, d0, d1, d2, d3, d4, d5, z6]) rfl ⟨rfl, ?_⟩
  iterate 6 (refine Below.setCell ?_ (by simp only []; omega) _)
  exact HB2.out
set_option maxHeartbeats 2000000 in
set_option maxRecDepth 100000 in
theorem radd_over (w : World) (a b : Ac) (h : okA a) (h2 : okA b) (h3 : ¬ okA (sumA a b)) :
    Calls Tryd.prog 17 #[aV a, aV b] w fun e w' => e = .returned (.tuple #[aV z6, .int .i64 10]) ∧ Below w.heap.size w w' := by
  have HV := Lib.hid (fun W => (rmaybe W a))
  rw [decide_eq_true h] at HV
  have HV2 := Lib.hid (fun W => (rmaybe W b))
  rw [decide_eq_true h2] at HV2
  have HV3 := Lib.hid (fun W => (rmaybe W (sumA a b)))
  rw [decide_eq_false h3] at HV3
  clear h h2 h3
  go_enter Tryd.func17, Tryd.ntmps17
  go_wp2_with fail
  refine (HV.out _).mono ?_
  rintro e w1 ⟨rfl, hb1⟩
  have HR1 := Lib.hid (has_below (has_new _ (.cells #[.int .i64 0, .int .i64 0, .int .i64 0, .int .i64 0, .int .i64 0, .int .i64 0] 34) (w.heap.size + 1 + 1) (by simp)) hb1)
  have HA1 := Lib.hid (has_below (has_old (has_old (has_new _ (.cells #[.int .i64 a.g, .int .i64 a.o, .int .i64 a.l, .int .i64 a.d, .int .i64 a.c, .int .i64 a.t] 34) w.heap.size rfl) _) _) hb1)
  have HC1 := Lib.hid (has_below (has_old (has_new _ (.cells #[.int .i64 b.g, .int .i64 b.o, .int .i64 b.l, .int .i64 b.d, .int .i64 b.c, .int .i64 b.t] 34) (w.heap.size + 1) (by simp)) _) hb1)
  have HB1 := Lib.hid (bnext (show Below w.heap.size w _ from (by repeat (first | exact Below.refl _ _ | (with_reducible assumption) | refine Below.drew ?_ | (refine Below.alloc ?_ (by first | exact Nat.le_refl _ | omega | (simp; done) | (simp; omega)) _) | (refine Below.setCell ?_ (by first | omega | (simp; done) | (simp; omega)) _)))) hb1)
  clear hb1
  obtain ⟨f1, d0, d1, d2, d3, d4, d5⟩ := res6 HR1.out
  obtain ⟨a0, a1, a2, a3, a4, a5⟩ := acc6 (a := a) HA1.out
  obtain ⟨c0, c1, c2, c3, c4, c5⟩ := acc6 (a := b) HC1.out
  go_wp2_with fail
  refine (HV2.out _).mono ?_
  rintro e w2 ⟨rfl, hb2⟩
  have HR2 := Lib.hid (has_below HR1.out hb2)
  have HA2 := Lib.hid (has_below HA1.out hb2)
  have HC2 := Lib.hid (has_below HC1.out hb2)
  have HB2 := Lib.hid (bnext HB1.out hb2)
  clear hb2
  clear f1 d0 d1 d2 d3 d4 d5 a0 a1 a2 a3 a4 a5 c0 c1 c2 c3 c4 c5
  obtain ⟨f1, d0, d1, d2, d3, d4, d5⟩ := res6 HR2.out
  obtain ⟨a0, a1, a2, a3, a4, a5⟩ := acc6 (a := a) HA2.out
  obtain ⟨c0, c1, c2, c3, c4, c5⟩ := acc6 (a := b) HC2.out
  have hz2 : w.heap.size + 1 + 1 < w2.heap.size := has_lt HR2.out
  have hy2 : w.heap.size + 1 < w2.heap.size := by omega
  have hx2 : w.heap.size < w2.heap.size := by omega
  go_wp2_with fail
  refine (HV3.out _).mono ?_
  rintro e w3 ⟨rfl, hb3⟩
  have HR3 := Lib.hid (has_below (has_old HR2.out _) hb3)
  have HS3 := Lib.hid (has_below (has_new w2 (.cells #[.int .i64 (sumA a b).g, .int .i64 (sumA a b).o, .int .i64 (sumA a b).l, .int .i64 (sumA a b).d, .int .i64 (sumA a b).c, .int .i64 (sumA a b).t] 34) w2.heap.size rfl) hb3)
  have HB3 := Lib.hid (bnext (below_alloc HB2.out _) hb3)
  clear hb3
  clear f1 d0 d1 d2 d3 d4 d5 a0 a1 a2 a3 a4 a5 c0 c1 c2 c3 c4 c5
  obtain ⟨f1, d0, d1, d2, d3, d4, d5⟩ := res6 HR3.out
  obtain ⟨a0, a1, a2, a3, a4, a5⟩ := acc6 (a := sumA a b) HS3.out
  go_wp2_with fail
  refine bodyPost_ret (v := .tuple #[aV z6, .int .i64 10]) (by simp [results, Tryd.results17, go_sem, d0, d1, d2, d3, d4, d5, z6]) rfl ⟨rfl, ?_⟩
  iterate 6 (refine Below.setCell ?_ (by simp only []; omega) _)
  exact HB3.out
set_option maxHeartbeats 2000000 in
set_option maxRecDepth 100000 in
theorem radd_ok (w : World) (a b : Ac) (h : okA a) (h2 : okA b) (h3 : okA (sumA a b)) :
    Calls Tryd.prog 17 #[aV a, aV b] w fun e w' => e = .returned (.tuple #[aV (sumA a b), .int .i64 0]) ∧ Below w.heap.size w w' := by
  have HV := Lib.hid (fun W => (rmaybe W a))
  rw [decide_eq_true h] at HV
  have HV2 := Lib.hid (fun W => (rmaybe W b))
  rw [decide_eq_true h2] at HV2
  have HV3 := Lib.hid (fun W => (rmaybe W (sumA a b)))
  rw [decide_eq_true h3] at HV3
  clear h h2 h3
  go_enter Tryd.func17, Tryd.ntmps17
  go_wp2_with fail
  refine (HV.out _).mono ?_
  rintro e w1 ⟨rfl, hb1⟩
  have HR1 := Lib.hid (has_below (has_new _ (.cells #[.int .i64 0, .int .i64 0, .int .i64 0, .int .i64 0, .int .i64 0, .int .i64 0] 34) (w.heap.size + 1 + 1) (by simp)) hb1)
  have HA1 := Lib.hid (has_below (has_old (has_old (has_new _ (.cells #[.int .i64 a.g, .int .i64 a.o, .int .i64 a.l, .int .i64 a.d, .int .i64 a.c, .int .i64 a.t] 34) w.heap.size rfl) _) _) hb1)
  have HC1 := Lib.hid (has_below (has_old (has_new _ (.cells #[.int .i64 b.g, .int .i64 b.o, .int .i64 b.l, .int .i64 b.d, .int .i64 b.c, .int .i64 b.t] 34) (w.heap.size + 1) (by simp)) _) hb1)
  have HB1 := Lib.hid (bnext (show Below w.heap.size w _ from (by repeat (first | exact Below.refl _ _ | (with_reducible assumption) | refine Below.drew ?_ | (refine Below.alloc ?_ (by first | exact Nat.le_refl _ | omega | (simp; done) | (simp; omega)) _) | (refine Below.setCell ?_ (by first | omega | (simp; done) | (simp; omega)) _)))) hb1)
  clear hb1
  obtain ⟨f1, d0, d1, d2, d3, d4, d5⟩ := res6 HR1.out
  obtain ⟨a0, a1, a2, a3, a4, a5⟩ := acc6 (a := a) HA1.out
  obtain ⟨c0, c1, c2, c3, c4, c5⟩ := acc6 (a := b) HC1.out
  go_wp2_with fail
  refine (HV2.out _).mono ?_
  rintro e w2 ⟨rfl, hb2⟩
  have HR2 := Lib.hid (has_below HR1.out hb2)
  have HA2 := Lib.hid (has_below HA1.out hb2)
  have HC2 := Lib.hid (has_below HC1.out hb2)
  have HB2 := Lib.hid (bnext HB1.out hb2)
  clear hb2
  clear f1 d0 d1 d2 d3 d4 d5 a0 a1 a2 a3 a4 a5 c0 c1 c2 c3 c4 c5
  obtain ⟨f1, d0, d1, d2, d3, d4, d5⟩ := res6 HR2.out
  obtain ⟨a0, a1, a2, a3, a4, a5⟩ := acc6 (a := a) HA2.out
  obtain ⟨c0, c1, c2, c3, c4, c5⟩ := acc6 (a := b) HC2.out
  have hz2 : w.heap.size + 1 + 1 < w2.heap.size := has_lt HR2.out
  have hy2 : w.heap.size + 1 < w2.heap.size := by omega
  have hx2 : w.heap.size < w2.heap.size := by omega
  go_wp2_with fail
  refine (HV3.out _).mono ?_
  rintro e w3 ⟨rfl, hb3⟩
  have HR3 := Lib.hid (has_below (has_old HR2.out _) hb3)
  have HS3 := Lib.hid (has_below (has_new w2 (.cells #[.int .i64 (sumA a b).g, .int .i64 (sumA a b).o, .int .i64 (sumA a b).l, .int .i64 (sumA a b).d, .int .i64 (sumA a b).c, .int .i64 (sumA a b).t] 34) w2.heap.size rfl) hb3)
  have HB3 := Lib.hid (bnext (below_alloc HB2.out _) hb3)
  clear hb3
  clear f1 d0 d1 d2 d3 d4 d5 a0 a1 a2 a3 a4 a5 c0 c1 c2 c3 c4 c5
  obtain ⟨f1, d0, d1, d2, d3, d4, d5⟩ := res6 HR3.out
  obtain ⟨a0, a1, a2, a3, a4, a5⟩ := acc6 (a := sumA a b) HS3.out
  go_wp2_with fail
  refine bodyPost_ret (v := .tuple #[aV (sumA a b), .int .i64 0]) (by simp [results, Tryd.results17, go_sem, d0, d1, d2, d3, d4, d5]) rfl ⟨rfl, ?_⟩
  iterate 6 (refine Below.setCell ?_ (by simp only []; omega) _)
  exact HB3.out
theorem radd (w : World) (a b : Ac) :
    Calls Tryd.prog 17 #[aV a, aV b] w fun e w' => e = .returned (.tuple #[aV (addA a b), .int .i64 (addE a b)]) ∧ Below w.heap.size w w' := by
  by_cases h : okA a
  · by_cases hb : okA b
    · by_cases h2 : okA (sumA a b)
      · have hE : addE a b = 0 := by unfold addE; rw [if_neg (fun k => k ⟨h, hb⟩), if_neg (fun k => k h2)]
        rw [show addA a b = sumA a b from if_pos hE, hE]; exact radd_ok w a b h hb h2
      · have hE : addE a b = 10 := by unfold addE; rw [if_neg (fun k => k ⟨h, hb⟩), if_pos h2]
        rw [show addA a b = z6 from if_neg (by rw [hE]; decide), hE]; exact radd_over w a b h hb h2
    · have hE : addE a b = 1 := if_pos (fun k => hb k.2)
      rw [show addA a b = z6 from if_neg (by rw [hE]; decide), hE]; exact radd_arg2 w a b h hb
  · have hE : addE a b = 1 := if_pos (fun k => h k.1)
    rw [show addA a b = z6 from if_neg (by rw [hE]; decide), hE]; exact radd_arg1 w a b h
end Go.Proofs.YtdbfjcdglcagaaaDoor
