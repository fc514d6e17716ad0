/- The program's Add; no condition but those that each row names. -/
import Derived.Test.YtdbfjcdglcagaaaDoorPSum
namespace Go.Proofs.YtdbfjcdglcagaaaDoor
open Go.RowKit Go.Maps Bk

theorem has_below {w w' : World} {g : Nat} {o : Obj} (h : Has w g o) (hb : Below w.heap.size w w') : Has w' g o := (hb.block g (has_lt h)).trans h
/-- A block of six noughts: what a walk asks of it. -/
theorem res6 {W : World} {g : Nat} {T : TypeId} (h : Has W g (.cells #[.int .i64 0, .int .i64 0, .int .i64 0, .int .i64 0, .int .i64 0, .int .i64 0] T)) : (∀ j, W.frozen? ⟨g, j, none⟩ = false) ∧ W.cell? ⟨g, 0, none⟩ = some (.int .i64 0) ∧ W.cell? ⟨g, 1, none⟩ = some (.int .i64 0) ∧ W.cell? ⟨g, 2, none⟩ = some (.int .i64 0) ∧ W.cell? ⟨g, 3, none⟩ = some (.int .i64 0) ∧ W.cell? ⟨g, 4, none⟩ = some (.int .i64 0) ∧ W.cell? ⟨g, 5, none⟩ = some (.int .i64 0) :=
  ⟨has_free h, has_cell h 0, has_cell h 1, has_cell h 2, has_cell h 3, has_cell h 4, has_cell h 5⟩
theorem pvalid1 (w : World) (a : Ac) (g : Nat) (T : TypeId) (hA : Has w g (.cells #[.int .i64 a.g, .int .i64 a.o, .int .i64 a.l, .int .i64 a.d, .int .i64 a.c, .int .i64 a.t] T)) :
    Calls Tryd.prog 32 #[.slice (some ⟨g, 0, none⟩) 1 1] w fun e w' => e = .returned (.bool (decide (okA a))) ∧ Below w.heap.size w w' := by
  refine (pvalid w [a] g T hA (by simp)).mono fun e w' ⟨he, hb⟩ => ⟨he.trans ?_, hb⟩
  congr 2
  exact decide_eq_decide.2 (by simp)
theorem pvalid2 (w : World) (a b : Ac) (g : Nat) (T : TypeId) (hA : Has w g (.cells #[.int .i64 a.g, .int .i64 a.o, .int .i64 a.l, .int .i64 a.d, .int .i64 a.c, .int .i64 a.t, .int .i64 b.g, .int .i64 b.o, .int .i64 b.l, .int .i64 b.d, .int .i64 b.c, .int .i64 b.t] T)) :
    Calls Tryd.prog 32 #[.slice (some ⟨g, 0, none⟩) 2 2] w fun e w' => e = .returned (.bool (decide (okA a ∧ okA b))) ∧ Below w.heap.size w w' := by
  refine (pvalid w [a, b] g T hA (by simp)).mono fun e w' ⟨he, hb⟩ => ⟨he.trans ?_, hb⟩
  congr 2
  exact decide_eq_decide.2 (by simp)

set_option maxHeartbeats 2000000 in
theorem padd_arg (w : World) (a b : Ac) (h : ¬ (okA a ∧ okA b)) :
    Calls Tryd.prog 16 #[aV a, aV b] w fun e w' => e = .returned (.tuple #[aV z6, errV 1]) ∧ Below w.heap.size w w' := by
  have hd : decide (okA a ∧ okA b) = false := decide_eq_false h
  have HV := Lib.hid (fun W g T hA => (pvalid2 W a b g T hA))
  rw [hd] at HV
  clear h hd
  go_enter Tryd.func16, Tryd.ntmps16
  go_wp2_with fail
  refine (HV.out _ _ _ (has_new _ _ _ (by first | rfl | simp))).mono ?_
  rintro e w1 ⟨rfl, hb1⟩
  have hR1 := has_below (has_old (has_new _ (.cells #[.int .i64 0, .int .i64 0, .int .i64 0, .int .i64 0, .int .i64 0, .int .i64 0] 34) (w.heap.size + 1 + 1) (by simp)) _) hb1
  have HR1 := Lib.hid hR1
  obtain ⟨f1, d0, d1, d2, d3, d4, d5⟩ := res6 hR1
  obtain ⟨hc1, hf1⟩ := bcell hb1
  clear hR1
  have HB := Lib.hid (bnext (show Below w.heap.size w _ from (by repeat (first | exact Below.refl _ _ | (with_reducible assumption) | refine Below.drew ?_ | (refine Below.alloc ?_ (by first | exact Nat.le_refl _ | omega | (simp; done) | (simp; omega)) _) | (refine Below.setCell ?_ (by first | omega | (simp; done) | (simp; omega)) _)))) hb1)
  clear hb1
  go_wp2_with fail
  refine bodyPost_ret (v := .tuple #[aV z6, errV 1]) (by simp [results, Tryd.results16, go_sem, d0, d1, d2, d3, d4, d5, z6, errV]) rfl ⟨rfl, ?_⟩
  iterate 6 (refine Below.setCell ?_ (by simp only []; omega) _)
  exact HB.out
set_option maxHeartbeats 2000000 in
theorem padd_over (w : World) (a b : Ac) (h : okA a ∧ okA b) (h2 : ¬ okA (sumA a b)) :
    Calls Tryd.prog 16 #[aV a, aV b] w fun e w' => e = .returned (.tuple #[aV z6, errV 10]) ∧ Below w.heap.size w w' := by
  have hd : decide (okA a ∧ okA b) = true := decide_eq_true h
  have hd2 : decide (okA (sumA a b)) = false := decide_eq_false h2
  have HV := Lib.hid (fun W g T hA => (pvalid2 W a b g T hA))
  have HV1 := Lib.hid (fun W g T hA => (pvalid1 W (sumA a b) g T hA))
  rw [hd] at HV
  rw [hd2] at HV1
  clear h hd h2 hd2
  go_enter Tryd.func16, Tryd.ntmps16
  go_wp2_with fail
  refine (HV.out _ _ _ (has_new _ _ _ (by first | rfl | simp))).mono ?_
  rintro e w1 ⟨rfl, hb1⟩
  have hR1 := has_below (has_old (has_new _ (.cells #[.int .i64 0, .int .i64 0, .int .i64 0, .int .i64 0, .int .i64 0, .int .i64 0] 34) (w.heap.size + 1 + 1) (by simp)) _) hb1
  have HR1 := Lib.hid hR1
  obtain ⟨f1, d0, d1, d2, d3, d4, d5⟩ := res6 hR1
  obtain ⟨hc1, hf1⟩ := bcell hb1
  clear hR1
  have HB := Lib.hid (bnext (show Below w.heap.size w _ from (by repeat (first | exact Below.refl _ _ | (with_reducible assumption) | refine Below.drew ?_ | (refine Below.alloc ?_ (by first | exact Nat.le_refl _ | omega | (simp; done) | (simp; omega)) _) | (refine Below.setCell ?_ (by first | omega | (simp; done) | (simp; omega)) _)))) hb1)
  clear hb1
  go_wp2_with fail
  refine (psum _ a b).mono ?_
  rintro e w2 ⟨rfl, hb2⟩
  have HR2 := Lib.hid (has_below HR1.out hb2)
  clear f1 d0 d1 d2 d3 d4 d5 hc1 hf1
  have HB2 := Lib.hid (bnext HB.out hb2)
  clear hb2
  go_wp2_with fail
  refine (HV1.out _ _ _ (has_new _ _ _ (by first | rfl | simp))).mono ?_
  rintro e w3 ⟨rfl, hb3⟩
  have hR3 := has_below (has_old (has_old HR2.out _) _) hb3
  obtain ⟨f1, d0, d1, d2, d3, d4, d5⟩ := res6 hR3
  obtain ⟨hc3, hf3⟩ := bcell hb3
  clear hR3
  have HB3 := Lib.hid (bnext (below_alloc (below_alloc HB2.out _) _) hb3)
  clear hb3
  go_wp2_with fail
  refine bodyPost_ret (v := .tuple #[aV z6, errV 10]) (by simp [results, Tryd.results16, go_sem, d0, d1, d2, d3, d4, d5, z6, errV]) rfl ⟨rfl, ?_⟩
  iterate 6 (refine Below.setCell ?_ (by simp only []; omega) _)
  exact HB3.out
set_option maxHeartbeats 2000000 in
theorem padd_ok (w : World) (a b : Ac) (h : okA a ∧ okA b) (h2 : okA (sumA a b)) :
    Calls Tryd.prog 16 #[aV a, aV b] w fun e w' => e = .returned (.tuple #[aV (sumA a b), .nilIface]) ∧ Below w.heap.size w w' := by
  have hd : decide (okA a ∧ okA b) = true := decide_eq_true h
  have hd2 : decide (okA (sumA a b)) = true := decide_eq_true h2
  have HV := Lib.hid (fun W g T hA => (pvalid2 W a b g T hA))
  have HV1 := Lib.hid (fun W g T hA => (pvalid1 W (sumA a b) g T hA))
  rw [hd] at HV
  rw [hd2] at HV1
  clear h hd h2 hd2
  go_enter Tryd.func16, Tryd.ntmps16
  go_wp2_with fail
  refine (HV.out _ _ _ (has_new _ _ _ (by first | rfl | simp))).mono ?_
  rintro e w1 ⟨rfl, hb1⟩
  have hR1 := has_below (has_old (has_new _ (.cells #[.int .i64 0, .int .i64 0, .int .i64 0, .int .i64 0, .int .i64 0, .int .i64 0] 34) (w.heap.size + 1 + 1) (by simp)) _) hb1
  have HR1 := Lib.hid hR1
  obtain ⟨f1, d0, d1, d2, d3, d4, d5⟩ := res6 hR1
  obtain ⟨hc1, hf1⟩ := bcell hb1
  clear hR1
  have HB := Lib.hid (bnext (show Below w.heap.size w _ from (by repeat (first | exact Below.refl _ _ | (with_reducible assumption) | refine Below.drew ?_ | (refine Below.alloc ?_ (by first | exact Nat.le_refl _ | omega | (simp; done) | (simp; omega)) _) | (refine Below.setCell ?_ (by first | omega | (simp; done) | (simp; omega)) _)))) hb1)
  clear hb1
  go_wp2_with fail
  refine (psum _ a b).mono ?_
  rintro e w2 ⟨rfl, hb2⟩
  have HR2 := Lib.hid (has_below HR1.out hb2)
  clear f1 d0 d1 d2 d3 d4 d5 hc1 hf1
  have HB2 := Lib.hid (bnext HB.out hb2)
  clear hb2
  go_wp2_with fail
  refine (HV1.out _ _ _ (has_new _ _ _ (by first | rfl | simp))).mono ?_
  rintro e w3 ⟨rfl, hb3⟩
  have hR3 := has_below (has_old (has_old HR2.out _) _) hb3
  obtain ⟨f1, d0, d1, d2, d3, d4, d5⟩ := res6 hR3
  obtain ⟨hc3, hf3⟩ := bcell hb3
  clear hR3
  have HB3 := Lib.hid (bnext (below_alloc (below_alloc HB2.out _) _) hb3)
  clear hb3
  go_wp2_with fail
  refine bodyPost_ret (v := .tuple #[aV (sumA a b), .nilIface]) (by simp [results, Tryd.results16, go_sem, d0, d1, d2, d3, d4, d5]) rfl ⟨rfl, ?_⟩
  iterate 6 (refine Below.setCell ?_ (by simp only []; omega) _)
  exact HB3.out
theorem padd (w : World) (a b : Ac) :
    Calls Tryd.prog 16 #[aV a, aV b] w fun e w' => e = .returned (.tuple #[aV (addA a b), errV (addE a b)]) ∧ Below w.heap.size w w' := by
  by_cases h : okA a ∧ okA b
  · by_cases h2 : okA (sumA a b)
    · have hE : addE a b = 0 := by unfold addE; rw [if_neg (fun k => k h), if_neg (fun k => k h2)]
      rw [show addA a b = sumA a b from if_pos hE, hE]; exact padd_ok w a b h h2
    · have hE : addE a b = 10 := by unfold addE; rw [if_neg (fun k => k h), if_pos h2]
      rw [show addA a b = z6 from if_neg (by rw [hE]; decide), hE]; exact padd_over w a b h h2
  · have hE : addE a b = 1 := if_pos h
    rw [show addA a b = z6 from if_neg (by rw [hE]; decide), hE]; exact padd_arg w a b h
end Go.Proofs.YtdbfjcdglcagaaaDoor
