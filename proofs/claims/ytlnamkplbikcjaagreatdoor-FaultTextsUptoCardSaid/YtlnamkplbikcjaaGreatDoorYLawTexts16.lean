/- The law FaultTexts: the text of every error, with numbers, with names; no condition but that a text is of 2^40 bytes at most, and what the rows' listed variables hold. -/
import Derived.Test.YtlnamkplbikcjaaGreatDoorYTextS
import Derived.Test.YtlnamkplbikcjaaGreatDoorYMadeL
import Derived.Test.YtlnamkplbikcjaaGreatDoorYWorks
namespace Go.Proofs.YtlnamkplbikcjaaGreatDoor
open Go.RowKit Ft

theorem nil_of_ev {N : Nat} {w : World} {e : Er} (h : EV N w e .nilIface) : e = .nil := by
  by_cases hn : e = .nil
  · exact hn
  · obtain ⟨t, p, hv⟩ := h.iface hn
    cases hv
set_option maxHeartbeats 8000000 in
set_option maxRecDepth 100000 in
theorem texts_law (v : Value) (d : Dt) (w : World) (hg : LaidAt w) (hok : d.ok) (hv : DV w d v) (hlen : d.many 400 < 400 → ∀ said, (d.toE.txt said).length ≤ 1099511627776) :
    Calls Tryz.prog 3 #[v] w fun r w' => r = .returned (.bool true) ∧ Below w.heap.size w w' := by
  obtain ⟨p, cap, rfl, hm, h0, h1⟩ := hv.parts
  obtain ⟨WB, hWB⟩ : ∃ WB, WB = w.alloc (.cells #[.int .i64 d.k, .int .i64 d.op, .int .i64 d.h, .int .i64 d.n, .string d.t, .slice p d.m cap] 25) := ⟨_, rfl⟩
  have hb : Below w.heap.size w WB := by rw [hWB]; exact (by repeat (first | exact Below.refl _ _ | (with_reducible assumption) | refine Below.drew ?_ | (refine Below.alloc ?_ (by first | exact Nat.le_refl _ | omega | (simp; done) | (simp; omega)) _) | (refine Below.setCell ?_ (by first | omega | (simp; done) | (simp; omega)) _)))
  have x0 : WB.cell? ⟨w.heap.size, 0, none⟩ = some (.int .i64 d.k) := by rw [hWB]; simp
  have x1 : WB.cell? ⟨w.heap.size, 1, none⟩ = some (.int .i64 d.op) := by rw [hWB]; simp
  have x2 : WB.cell? ⟨w.heap.size, 2, none⟩ = some (.int .i64 d.h) := by rw [hWB]; simp
  have x3 : WB.cell? ⟨w.heap.size, 3, none⟩ = some (.int .i64 d.n) := by rw [hWB]; simp
  have x4 : WB.cell? ⟨w.heap.size, 4, none⟩ = some (.string d.t) := by rw [hWB]; simp
  have x5 : WB.cell? ⟨w.heap.size, 5, none⟩ = some (.slice p d.m cap) := by rw [hWB]; simp
  have HX := Lib.hid (fun W (hW : Below WB.heap.size WB W) => (⟨(hW.cell (cell_lt x0)).trans x0, (hW.cell (cell_lt x1)).trans x1, (hW.cell (cell_lt x2)).trans x2, (hW.cell (cell_lt x3)).trans x3, (hW.cell (cell_lt x4)).trans x4, (hW.cell (cell_lt x5)).trans x5⟩ : W.cell? ⟨w.heap.size, 0, none⟩ = some (.int .i64 d.k) ∧ W.cell? ⟨w.heap.size, 1, none⟩ = some (.int .i64 d.op) ∧ W.cell? ⟨w.heap.size, 2, none⟩ = some (.int .i64 d.h) ∧ W.cell? ⟨w.heap.size, 3, none⟩ = some (.int .i64 d.n) ∧ W.cell? ⟨w.heap.size, 4, none⟩ = some (.string d.t) ∧ W.cell? ⟨w.heap.size, 5, none⟩ = some (.slice p d.m cap)))
  have HWk := Lib.hid (fun W (hW : Below WB.heap.size WB W) => works_any W (hg.below (bnext hb hW)))
  have HPl := Lib.hid (plain_any d _ WB (DV.below hb hv))
  have HMd := Lib.hid (fun W (hW : Below WB.heap.size WB W) => (made_any d _ W (DV.below (bnext hb hW) hv)).mono (R' := fun r w' => ∃ u, r = .returned u ∧ EV w'.heap.size w' d.toE u ∧ Below W.heap.size W w') (fun _ _ h => h))
  have HTx := Lib.hid (fun (hl : (d.toE.txt false).length ≤ 1099511627776) W (hW : Below WB.heap.size WB W) => rText16 d hok hl _ W (DV.below (bnext hb hW) hv))
  have HSy := Lib.hid (fun (hl : (d.toE.txt true).length ≤ 1099511627776) W (hW : Below WB.heap.size WB W) => rSay16 d hok hl _ W (DV.below (bnext hb hW) hv))
  have HLd := Lib.hid (fun W (hW : Below WB.heap.size WB W) => hg.below (bnext hb hW))
  have HOk := Lib.hid (Dt.ok_toE hok)
  have HLn := Lib.hid hlen
  have HB := Lib.hid hb
  have HW := Lib.hid hWB
  clear hg hv h0 h1 hb hWB hlen hok
  generalize d.k = k at *; generalize d.op = op at *; generalize d.h = h at *; generalize d.n = n at *; generalize d.t = t at *; generalize d.m = m at *
  generalize d.toE = e at *
  generalize hpl : decide (d.many 400 < 400) = pl at *
  go_enter Tryz.func3, Tryz.ntmps3
  go_wp2_with fail
  rw [← HW.out]
  refine HPl.out.mono ?_
  rintro r w1 ⟨rfl, hb1⟩
  have K1 := Lib.hid hb1
  clear hb1 x0 x1 x2 x3 x4 x5
  cases pl with
  | false =>
    go_wp2_with fail
    refine (HWk.out _ K1.out).mono ?_
    rintro r w2 ⟨rfl, hb2⟩
    go_wp2_with fail
    go_ret
    exact ⟨rfl, bnext (bnext HB.out K1.out) hb2⟩
  | true =>
    have hl := HLn.out (of_decide_eq_true hpl)
    have HTx := Lib.hid (HTx.out (hl false))
    have HSy := Lib.hid (HSy.out (hl true))
    have HLf := Lib.hid (Nat.le_trans (hl false) (by decide : 1099511627776 ≤ 140737488355328))
    have HLt := Lib.hid (Nat.le_trans (hl true) (by decide : 1099511627776 ≤ 140737488355328))
    clear hl hpl
    obtain ⟨x0, x1, x2, x3, x4, x5⟩ := HX.out w1 K1.out
    go_wp2_with fail
    refine (HMd.out _ K1.out).mono ?_
    rintro r w2 ⟨u, rfl, hu, hb2⟩
    have K2 := Lib.hid (bnext K1.out hb2)
    have F1 := Lib.hid (fun W (hW : Below w2.heap.size w2 W) => tells_any e HOk.out _ W (HLd.out W (bnext K2.out hW)) (hu.below hW) HLf.out)
    have F2 := Lib.hid (fun W (hW : Below w2.heap.size w2 W) => say_any e HOk.out _ W (HLd.out W (bnext K2.out hW)) (hu.below hW) HLt.out)
    have HU := Lib.hid hu
    clear hb2 x0 x1 x2 x3 x4 x5
    obtain ⟨x0, x1, x2, x3, x4, x5⟩ := HX.out w2 K2.out
    rcases hu.form with rfl | ⟨ti, pi, rfl⟩
    · have he := nil_of_ev hu
      subst he
      clear hu
      rw [show Er.txt true .nil = [] from rfl] at F2
      go_wp2_with fail
      refine (F2.out _ (Below.refl _ _)).mono ?_
      rintro r w3 ⟨rfl, hb3⟩
      have L3 := Lib.hid hb3
      clear hb3 x0 x1 x2 x3 x4 x5
      go_wp2_with fail
      refine (HWk.out _ (bnext K2.out L3.out)).mono ?_
      rintro r w4 ⟨rfl, hb4⟩
      go_wp2_with fail
      go_ret
      exact ⟨rfl, bnext (bnext HB.out (bnext K2.out L3.out)) hb4⟩
    · clear hu
      generalize e.txt false = A at *
      generalize e.txt true = A2 at *
      have hAA : (A == A) = true := beq_self_eq_true A
      have hA2 : (A2 == A2) = true := beq_self_eq_true A2
      have HD := Lib.hid (below_drew (Below.refl w2.heap.size w2))
      have HKB := Lib.hid (bnext HB.out K2.out)
      go_wp2_with fail
      go_region_held3 (fun w' => w'.cell? ⟨w.heap.size, 0, none⟩ = some (.int .i64 k) ∧ w'.cell? ⟨w.heap.size, 1, none⟩ = some (.int .i64 op) ∧ w'.cell? ⟨w.heap.size, 2, none⟩ = some (.int .i64 h) ∧ w'.cell? ⟨w.heap.size, 3, none⟩ = some (.int .i64 n) ∧ w'.cell? ⟨w.heap.size, 4, none⟩ = some (.string t) ∧ w'.cell? ⟨w.heap.size, 5, none⟩ = some (.slice p m cap) ∧ Below w2.heap.size w2 w')
        (first
        | exact ⟨x0, x1, x2, x3, x4, x5, HD.out⟩
        | (go_split_ands; refine ⟨(hb.cell (p := ⟨w.heap.size, 0, none⟩) (cell_lt (by assumption))).trans (by assumption), (hb.cell (p := ⟨w.heap.size, 1, none⟩) (cell_lt (by assumption))).trans (by assumption), (hb.cell (p := ⟨w.heap.size, 2, none⟩) (cell_lt (by assumption))).trans (by assumption), (hb.cell (p := ⟨w.heap.size, 3, none⟩) (cell_lt (by assumption))).trans (by assumption), (hb.cell (p := ⟨w.heap.size, 4, none⟩) (cell_lt (by assumption))).trans (by assumption), (hb.cell (p := ⟨w.heap.size, 5, none⟩) (cell_lt (by assumption))).trans (by assumption), bnext (by assumption) hb⟩)
        | go_keep)
        (first
          | (go_at_call 9; with_reducible refine (F1.out _ (by first | assumption | (go_split_ands; assumption))).mono ?_; rintro r w' ⟨rfl, hb⟩)
          | (go_at_call 8; with_reducible refine (F2.out _ (by first | assumption | (go_split_ands; assumption))).mono ?_; rintro r w' ⟨rfl, hb⟩)
          | (go_at_call 10; with_reducible refine (HTx.out _ (bnext K2.out (by first | assumption | (go_split_ands; assumption)))).mono ?_; rintro r w' ⟨rfl, hb⟩)
          | (go_at_call 11; with_reducible refine (HSy.out _ (bnext K2.out (by first | assumption | (go_split_ands; assumption)))).mono ?_; rintro r w' ⟨rfl, hb⟩)
          | (go_at_call 6; with_reducible refine (HWk.out _ (bnext K2.out (by first | assumption | (go_split_ands; assumption)))).mono ?_; rintro r w' ⟨rfl, hb⟩))
      all_goals
        go_split_ands
        go_wp2_with fail
        go_ret
        exact ⟨rfl, bnext HKB.out (by assumption)⟩
end Go.Proofs.YtlnamkplbikcjaaGreatDoor
