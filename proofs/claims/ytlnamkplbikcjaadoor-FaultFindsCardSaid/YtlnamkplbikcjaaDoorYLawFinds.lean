/- The law FaultFinds: the number, the handle, the operation, the line that are found in every error; no condition but what the rows' listed variables hold. -/
import Derived.Test.YtlnamkplbikcjaaDoorYFindsR
import Derived.Test.YtlnamkplbikcjaaDoorYMadeL
import Derived.Test.YtlnamkplbikcjaaDoorYWorks
namespace Go.Proofs.YtlnamkplbikcjaaDoor
open Go.RowKit Ft

set_option maxHeartbeats 8000000 in
set_option maxRecDepth 100000 in
theorem finds_law (v : Value) (d : Dt) (w : World) (hg : LaidAt w) (hv : DV w d v) :
    Calls Tryd.prog 3 #[v] w fun r w' => r = .returned (.bool true) ∧ Below w.heap.size w w' := by
  obtain ⟨p, cap, rfl, hm, h0, h1⟩ := hv.parts
  obtain ⟨WB, hWB⟩ : ∃ WB, WB = w.alloc (.cells #[.int .i64 d.k, .int .i64 d.op, .int .i64 d.h, .int .i64 d.n, .string d.t, .slice p d.m cap] 25) := ⟨_, rfl⟩
  have hb : Below w.heap.size w WB := by rw [hWB]; exact (by repeat (first | exact Below.refl _ _ | (with_reducible assumption) | refine Below.drew ?_ | (refine Below.alloc ?_ (by first | exact Nat.le_refl _ | omega | (simp; done) | (simp; omega)) _) | (refine Below.setCell ?_ (by first | omega | (simp; done) | (simp; omega)) _)))
  have x0 : WB.cell? ⟨w.heap.size, 0, none⟩ = some (.int .i64 d.k) := by rw [hWB]; simp
  have x1 : WB.cell? ⟨w.heap.size, 1, none⟩ = some (.int .i64 d.op) := by rw [hWB]; simp
  have x2 : WB.cell? ⟨w.heap.size, 2, none⟩ = some (.int .i64 d.h) := by rw [hWB]; simp
  have x3 : WB.cell? ⟨w.heap.size, 3, none⟩ = some (.int .i64 d.n) := by rw [hWB]; simp
  have x4 : WB.cell? ⟨w.heap.size, 4, none⟩ = some (.string d.t) := by rw [hWB]; simp
  have x5 : WB.cell? ⟨w.heap.size, 5, none⟩ = some (.slice p d.m cap) := by rw [hWB]; simp
  have HX := Lib.hid (fun W (hW : Below WB.heap.size WB W) => (⟨(hW.cell (cell_lt x0)).trans x0, (hW.cell (cell_lt x1)).trans x1, (hW.cell (cell_lt x2)).trans x2, (hW.cell (cell_lt x3)).trans x3, (hW.cell (cell_lt x4)).trans x4, (hW.cell (cell_lt x5)).trans x5⟩ : W.cell? ⟨w.heap.size, 0, none⟩ = some (.int .i64 d.k) ∧ W.cell? ⟨w.heap.size, 1, none⟩ = some (.int .i64 d.op) ∧ W.cell? ⟨w.heap.size, 2, none⟩ = some (.int .i64 d.h) ∧ W.cell? ⟨w.heap.size, 3, none⟩ = some (.int .i64 d.n) ∧ W.cell? ⟨w.heap.size, 4, none⟩ = some (.string d.t) ∧ W.cell? ⟨w.heap.size, 5, none⟩ = some (.slice p d.m cap)))
  have HWk := Lib.hid (fun W (hW : Below WB.heap.size WB W) => works_any W (hg.below (bnext hb hW)))
  have HPl := Lib.hid (plain_any d _ WB (DV.below hb hv))
  have HMd := Lib.hid (fun W (hW : Below WB.heap.size WB W) => (made_any d _ W (DV.below (bnext hb hW) hv)).mono (R' := fun r w' => ∃ u, r = .returned u ∧ EV w'.heap.size w' d.toE u ∧ Below W.heap.size W w') (fun _ _ h => h))
  have HWh := Lib.hid (fun W (hW : Below WB.heap.size WB W) => rWhere d _ W (DV.below (bnext hb hW) hv))
  have HLn := Lib.hid (fun W (hW : Below WB.heap.size WB W) => rLineOf d _ W (DV.below (bnext hb hW) hv))
  have HWy := Lib.hid (fun W (hW : Below WB.heap.size WB W) => rWhy d _ W (DV.below (bnext hb hW) hv))
  have HLd := Lib.hid (fun W (hW : Below WB.heap.size WB W) => hg.below (bnext hb hW))
  have HB := Lib.hid hb
  have HW := Lib.hid hWB
  clear hg hv h0 h1 hb hWB
  generalize d.k = k at *; generalize d.op = op at *; generalize d.h = h at *; generalize d.n = n at *; generalize d.t = t at *; generalize d.m = m at *
  generalize d.toE = e at *
  generalize hpl : decide (d.many 400 < 400) = pl at *
  go_enter Tryd.func3, Tryd.ntmps3
  go_wp2_with fail
  rw [← HW.out]
  refine HPl.out.mono ?_
  rintro r w1 ⟨rfl, hb1⟩
  have K1 := Lib.hid hb1
  clear hb1 x0 x1 x2 x3 x4 x5
  cases pl with
  | false =>
    go_wp2_with fail
    refine (HWk.out _ K1.out).mono ?_
    rintro r w2 ⟨rfl, hb2⟩
    go_wp2_with fail
    go_ret
    exact ⟨rfl, bnext (bnext HB.out K1.out) hb2⟩
  | true =>
    obtain ⟨x0, x1, x2, x3, x4, x5⟩ := HX.out w1 K1.out
    go_wp2_with fail
    refine (HMd.out _ K1.out).mono ?_
    rintro r w2 ⟨u, rfl, hu, hb2⟩
    have K2 := Lib.hid (bnext K1.out hb2)
    have F1 := Lib.hid (fun W (hW : Below w2.heap.size w2 W) => (Where_any e w2.heap.size _ W hW.size (HLd.out W (bnext K2.out hW)) (hu.keep hW)).mono (R' := fun r w' => r = .returned (.tuple #[.int .i64 ((e.at'.map (·.2)).getD 0), .bool e.at'.isSome]) ∧ Below W.heap.size W w') (fun r w' h => ⟨by rw [h.1, Option.isSome_map], h.2⟩))
    have F2 := Lib.hid (fun W (hW : Below w2.heap.size w2 W) => (What_any e w2.heap.size _ W hW.size (HLd.out W (bnext K2.out hW)) (hu.keep hW)).mono (R' := fun r w' => r = .returned (.tuple #[.int .i64 ((e.at'.map (·.1)).getD 0), .bool e.at'.isSome]) ∧ Below W.heap.size W w') (fun r w' h => ⟨by rw [h.1, Option.isSome_map], h.2⟩))
    have F3 := Lib.hid (fun W (hW : Below w2.heap.size w2 W) => LineOf_any e w2.heap.size _ W hW.size (HLd.out W (bnext K2.out hW)) (hu.keep hW))
    have F4 := Lib.hid (fun W (hW : Below w2.heap.size w2 W) => why_any e w2.heap.size _ W hW.size (HLd.out W (bnext K2.out hW)) (hu.keep hW))
    clear hu hb2 x0 x1 x2 x3 x4 x5
    obtain ⟨x0, x1, x2, x3, x4, x5⟩ := HX.out w2 K2.out
    generalize (Option.map (fun x => x.2) e.at').getD 0 = ah at *
    generalize (Option.map (fun x => x.1) e.at').getD 0 = ao at *
    generalize e.at'.isSome = ab at *
    generalize e.line.getD 0 = ln at *
    generalize e.line.isSome = lb at *
    generalize e.why = wy at *
    have haa : (ah == ah) = true := beq_self_eq_true ah
    have hoo : (ao == ao) = true := beq_self_eq_true ao
    have hll : (ln == ln) = true := beq_self_eq_true ln
    have hww : (wy == wy) = true := beq_self_eq_true wy
    have hab : (ab == ab) = true := by cases ab <;> rfl
    have hlb : (lb == lb) = true := by cases lb <;> rfl
    go_wp2_with fail
    refine (HWh.out _ K2.out).mono ?_
    rintro r w3 ⟨rfl, hb3⟩
    have L3 := Lib.hid hb3
    clear hb3 x0 x1 x2 x3 x4 x5
    obtain ⟨x0, x1, x2, x3, x4, x5⟩ := HX.out w3 (bnext K2.out L3.out)
    go_wp2_with fail
    refine (HLn.out _ (bnext K2.out L3.out)).mono ?_
    rintro r w4 ⟨rfl, hb4⟩
    have L4 := Lib.hid (bnext L3.out hb4)
    clear hb4 x0 x1 x2 x3 x4 x5
    go_wp2_with fail
    refine (F1.out _ L4.out).mono ?_
    rintro r w5 ⟨rfl, hb5⟩
    have L5 := Lib.hid (bnext L4.out hb5)
    clear hb5
    go_wp2_with fail
    refine (F2.out _ L5.out).mono ?_
    rintro r w6 ⟨rfl, hb6⟩
    have L6 := Lib.hid (bnext L5.out hb6)
    clear hb6
    go_wp2_with fail
    refine (F3.out _ L6.out).mono ?_
    rintro r w7 ⟨rfl, hb7⟩
    have L7 := Lib.hid (bnext L6.out hb7)
    clear hb7
    go_wp2_with fail
    obtain ⟨x0, x1, x2, x3, x4, x5⟩ := HX.out w7 (bnext K2.out L7.out)
    have HD := Lib.hid (below_drew L7.out)
    have HKB := Lib.hid (bnext HB.out K2.out)
    skip
    all_goals
      go_region_held3 (fun w' => w'.cell? ⟨w.heap.size, 0, none⟩ = some (.int .i64 k) ∧ w'.cell? ⟨w.heap.size, 1, none⟩ = some (.int .i64 op) ∧ w'.cell? ⟨w.heap.size, 2, none⟩ = some (.int .i64 h) ∧ w'.cell? ⟨w.heap.size, 3, none⟩ = some (.int .i64 n) ∧ w'.cell? ⟨w.heap.size, 4, none⟩ = some (.string t) ∧ w'.cell? ⟨w.heap.size, 5, none⟩ = some (.slice p m cap) ∧ Below w2.heap.size w2 w')
        (first
          | exact ⟨x0, x1, x2, x3, x4, x5, HD.out⟩
          | (go_split_ands; refine ⟨(hb.cell (p := ⟨w.heap.size, 0, none⟩) (cell_lt (by assumption))).trans (by assumption), (hb.cell (p := ⟨w.heap.size, 1, none⟩) (cell_lt (by assumption))).trans (by assumption), (hb.cell (p := ⟨w.heap.size, 2, none⟩) (cell_lt (by assumption))).trans (by assumption), (hb.cell (p := ⟨w.heap.size, 3, none⟩) (cell_lt (by assumption))).trans (by assumption), (hb.cell (p := ⟨w.heap.size, 4, none⟩) (cell_lt (by assumption))).trans (by assumption), (hb.cell (p := ⟨w.heap.size, 5, none⟩) (cell_lt (by assumption))).trans (by assumption), bnext (by assumption) hb⟩)
          | go_keep)
        (first
          | (go_at_call 14; with_reducible refine (F4.out _ (by first | assumption | (go_split_ands; assumption))).mono ?_; rintro r w' ⟨rfl, hb⟩)
          | (go_at_call 15; with_reducible refine (HWy.out _ (bnext K2.out (by first | assumption | (go_split_ands; assumption)))).mono ?_; rintro r w' ⟨rfl, hb⟩)
          | (go_at_call 7; with_reducible refine (HWk.out _ (bnext K2.out (by first | assumption | (go_split_ands; assumption)))).mono ?_; rintro r w' ⟨rfl, hb⟩))
      all_goals
        go_split_ands
        go_wp2_with fail
        go_ret
        exact ⟨rfl, bnext HKB.out (by assumption)⟩
end Go.Proofs.YtlnamkplbikcjaaDoor
