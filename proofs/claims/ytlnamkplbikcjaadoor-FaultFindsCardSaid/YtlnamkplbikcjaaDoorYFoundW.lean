/- The document's kinds and Found at every tree: the walks; no condition. -/
import Derived.Test.YtlnamkplbikcjaaDoorYFound
namespace Go.Proofs.YtlnamkplbikcjaaDoor
open Go.RowKit Ft

theorem has_under {W W' : World} {o : Obj} {g : Nat} (h : Has W g o) (hb : Below W.heap.size W W') : Has W' g o := (hb.block g (has_lt h)).trans h
theorem beq_cases (a b : Int) : (a == b) = true ∨ (a == b) = false := by cases a == b <;> simp
set_option maxHeartbeats 1000000 in
theorem kinds_any (d : Dt) (c : Int) (hc : c = 1 ∨ c = 2 ∨ c = 3) (v : Value) (w : World) (hv : DV w d v) :
    Calls Tryd.prog 49 #[v, .int .i64 c] w fun r w' => r = .returned (.bool (kindsB d.k c)) ∧ Below w.heap.size w w' := by
  obtain ⟨p, cap, rfl, hm, h0, h1⟩ := hv.parts
  clear hv h0 h1
  generalize d.k = k at *; generalize d.op = op at *; generalize d.h = h at *; generalize d.n = n at *; generalize d.t = t at *; generalize d.m = m at *
  have HB := Lib.hid (show Below w.heap.size w (w.alloc (.cells #[.int .i64 k, .int .i64 op, .int .i64 h, .int .i64 n, .string t, .slice p m cap] 25)) from (by repeat (first | exact Below.refl _ _ | (with_reducible assumption) | refine Below.drew ?_ | (refine Below.alloc ?_ (by first | exact Nat.le_refl _ | omega | (simp; done) | (simp; omega)) _) | (refine Below.setCell ?_ (by first | omega | (simp; done) | (simp; omega)) _))))
  rcases hc with rfl | rfl | rfl
  · rcases beq_cases k 1 with q1 | q1
    · have HK := Lib.hid (show kindsB k 1 = true by unfold kindsB; rw [q1]; rfl)
      go_enter Tryd.func49, Tryd.ntmps49
      go_wp2_with fail
      go_ret
      exact ⟨by rw [HK.out]; rfl, HB.out⟩
    · have HK := Lib.hid (show kindsB k 1 = false by unfold kindsB; rw [q1]; rfl)
      go_enter Tryd.func49, Tryd.ntmps49
      go_wp2_with fail
      go_ret
      exact ⟨by rw [HK.out]; rfl, HB.out⟩
  · rcases beq_cases k 2 with q1 | q1
    · have HK := Lib.hid (show kindsB k 2 = true by unfold kindsB; rw [q1]; rfl)
      go_enter Tryd.func49, Tryd.ntmps49
      go_wp2_with fail
      go_ret
      exact ⟨by rw [HK.out]; rfl, HB.out⟩
    · rcases beq_cases k 6 with q2 | q2
      · have HK := Lib.hid (show kindsB k 2 = true by unfold kindsB; rw [q1, q2]; rfl)
        go_enter Tryd.func49, Tryd.ntmps49
        go_wp2_with fail
        go_ret
        exact ⟨by rw [HK.out]; rfl, HB.out⟩
      · have HK := Lib.hid (show kindsB k 2 = false by unfold kindsB; rw [q1, q2]; rfl)
        go_enter Tryd.func49, Tryd.ntmps49
        go_wp2_with fail
        go_ret
        exact ⟨by rw [HK.out]; rfl, HB.out⟩
  · rcases beq_cases k 3 with q1 | q1
    · have HK := Lib.hid (show kindsB k 3 = true by unfold kindsB; rw [q1]; rfl)
      go_enter Tryd.func49, Tryd.ntmps49
      go_wp2_with fail
      go_ret
      exact ⟨by rw [HK.out]; rfl, HB.out⟩
    · rcases beq_cases k 7 with q2 | q2
      · have HK := Lib.hid (show kindsB k 3 = true by unfold kindsB; rw [q1, q2]; rfl)
        go_enter Tryd.func49, Tryd.ntmps49
        go_wp2_with fail
        go_ret
        exact ⟨by rw [HK.out]; rfl, HB.out⟩
      · have HK := Lib.hid (show kindsB k 3 = false by unfold kindsB; rw [q1, q2]; rfl)
        go_enter Tryd.func49, Tryd.ntmps49
        go_wp2_with fail
        go_ret
        exact ⟨by rw [HK.out]; rfl, HB.out⟩

/-- What Found answers. -/
def FoundP (c : Int) (w0 w : World) (d : Dt) (r : Ending) (w' : World) : Prop := ∃ x, r = .returned (.tuple #[x, .bool (d.fnd c).isSome]) ∧ DV w0 ((d.fnd c).getD .nil) x ∧ Below w.heap.size w w'
set_option maxHeartbeats 8000000 in
set_option maxRecDepth 100000 in
theorem found_gen (d : Dt) (c : Int) (hc : c = 1 ∨ c = 2 ∨ c = 3) (w0 : World)
    (ih0 : (d.k = 2 ∨ d.k = 3 ∨ d.k = 4) → ∀ (v : Value) (w : World), Below w0.heap.size w0 w → DV w0 d.kid0 v → Calls Tryd.prog 27 #[v, .int .i64 c] w (FoundP c w0 w d.kid0))
    (ih1 : (d.k = 2 ∨ d.k = 3 ∨ d.k = 4) → ∀ (v : Value) (w : World), Below w0.heap.size w0 w → DV w0 d.kid1 v → Calls Tryd.prog 27 #[v, .int .i64 c] w (FoundP c w0 w d.kid1))
    (v : Value) (w : World) (hb0 : Below w0.heap.size w0 w) (hv : DV w0 d v) : Calls Tryd.prog 27 #[v, .int .i64 c] w (FoundP c w0 w d) := by
  obtain ⟨p, cap, rfl, hm, h0, h1⟩ := hv.parts
  have HK := Lib.hid (fun W (hW : Below w.heap.size w W) => kinds_any d c hc _ W (DV.below (bnext hb0 hW) hv))
  have HI0 := Lib.hid (fun W (hW : Below w.heap.size w W) => rin0 d _ w0 W (bnext hb0 hW) hv)
  have HI1 := Lib.hid (fun W (hW : Below w.heap.size w W) => rin1 d _ w0 W (bnext hb0 hW) hv)
  have HE := Lib.hid (d.fnd_eq c hc)
  have HV := Lib.hid hv
  have F0 := Lib.hid (fun hq v W (hW : Below w.heap.size w W) => ih0 hq v W (bnext hb0 hW))
  have F1 := Lib.hid (fun hq v W (hW : Below w.heap.size w W) => ih1 hq v W (bnext hb0 hW))
  clear hv h0 h1 ih0 ih1 hb0
  generalize hfe : d.fnd c = f at *
  have HF : Hid (d.fnd c = f) := Lib.hid hfe
  unfold FoundP
  rw [hfe]
  clear hfe
  generalize d.kid0 = e0 at *; generalize d.kid1 = e1 at *
  generalize d.k = k at *; generalize d.op = op at *; generalize d.h = h at *; generalize d.n = n at *; generalize d.t = t at *; generalize d.m = m at *
  obtain ⟨WB, hWB⟩ : ∃ WB, WB = (w.alloc (.cells #[.int .i64 k, .int .i64 op, .int .i64 h, .int .i64 n, .string t, .slice p m cap] 25)).alloc (.cells #[.int .i64 0, .int .i64 0, .int .i64 0, .int .i64 0, .string ⟨#[]⟩, .slice none 0 0] 25) := ⟨_, rfl⟩
  have hbB : Below w.heap.size w WB := by rw [hWB]; exact (by repeat (first | exact Below.refl _ _ | (with_reducible assumption) | refine Below.drew ?_ | (refine Below.alloc ?_ (by first | exact Nat.le_refl _ | omega | (simp; done) | (simp; omega)) _) | (refine Below.setCell ?_ (by first | omega | (simp; done) | (simp; omega)) _)))
  have x0 : WB.cell? ⟨w.heap.size, 0, none⟩ = some (.int .i64 k) := by rw [hWB]; simp
  have x1 : WB.cell? ⟨w.heap.size, 1, none⟩ = some (.int .i64 op) := by rw [hWB]; simp
  have x2 : WB.cell? ⟨w.heap.size, 2, none⟩ = some (.int .i64 h) := by rw [hWB]; simp
  have x3 : WB.cell? ⟨w.heap.size, 3, none⟩ = some (.int .i64 n) := by rw [hWB]; simp
  have x4 : WB.cell? ⟨w.heap.size, 4, none⟩ = some (.string t) := by rw [hWB]; simp
  have x5 : WB.cell? ⟨w.heap.size, 5, none⟩ = some (.slice p m cap) := by rw [hWB]; simp
  have hz : Has WB (w.heap.size + 1) (.cells #[.int .i64 0, .int .i64 0, .int .i64 0, .int .i64 0, .string ⟨#[]⟩, .slice none 0 0] 25) := by rw [hWB]; exact has_new _ _ _ (by simp)
  have HKB := Lib.hid (HK.out WB hbB)
  have HB := Lib.hid hbB
  have HW := Lib.hid hWB
  have HZ := Lib.hid hz
  clear hbB hWB hz HK
  cases hkb : kindsB k c with
  | true =>
    rw [hkb] at HKB
    have hf : f = some d := by have := HE.out; rw [if_pos hkb] at this; exact this
    have HFF := Lib.hid hf
    clear hf hkb
    go_enter Tryd.func27, Tryd.ntmps27
    go_wp2_with fail
    rw [← HW.out]
    refine HKB.out.mono ?_
    rintro r w1 ⟨rfl, hb1⟩
    have hbw := bnext HB.out hb1
    have HBW := Lib.hid hbw
    have hz1 := has_under HZ.out hb1
    have c0 := (hb1.cell (cell_lt x0)).trans x0; have c1 := (hb1.cell (cell_lt x1)).trans x1; have c2 := (hb1.cell (cell_lt x2)).trans x2; have c3 := (hb1.cell (cell_lt x3)).trans x3; have c4 := (hb1.cell (cell_lt x4)).trans x4; have c5 := (hb1.cell (cell_lt x5)).trans x5
    clear x0 x1 x2 x3 x4 x5 hb1 hbw
    have dd := fun j => has_cell hz1 j
    have ff := fun j => has_free hz1 j
    have d0 := dd 0; have d1 := dd 1; have d2 := dd 2; have d3 := dd 3; have d4 := dd 4; have d5 := dd 5
    simp only [List.getElem?_toArray, List.getElem?_cons_zero, List.getElem?_cons_succ] at d0 d1 d2 d3 d4 d5
    have f0 := ff 0; have f1 := ff 1; have f2 := ff 2; have f3 := ff 3; have f4 := ff 4; have f5 := ff 5
    clear dd ff hz1
    go_wp2_with fail
    refine bodyPost_ret (v := .tuple #[.agg #[.int .i64 k, .int .i64 op, .int .i64 h, .int .i64 n, .string t, .slice p m cap], .bool true]) (by simp [results, Tryd.results27, go_sem, d0, d1, d2, d3, d4, d5]) rfl ⟨_, by rw [HFF.out]; rfl, by rw [HFF.out]; exact HV.out, ?_⟩
    iterate 6 (refine Below.setCell ?_ (Nat.le_succ _) _)
    exact HBW.out
  | false =>
    rw [hkb] at HKB
    have hf := HE.out
    rw [if_neg (show ¬ kindsB k c = true by rw [hkb]; simp)] at hf
    have HFF := Lib.hid hf
    clear hf hkb
    have hz := HZ.out
    have dd := fun j => has_cell hz j
    have ff := fun j => has_free hz j
    have D := Lib.hid dd
    have F := Lib.hid ff
    clear dd ff hz
    by_cases k2 : k = 2
    · have q2 : (k == 2) = true := by rw [k2]; rfl
      rw [if_pos (.inl k2)] at HFF
      have F0 := Lib.hid (F0.out (.inl k2))
      clear k2
      go_enter Tryd.func27, Tryd.ntmps27
      go_wp2_with fail
      rw [← HW.out]
      refine HKB.out.mono ?_
      rintro r w1 ⟨rfl, hb1⟩
      have HB1 := Lib.hid hb1
      have c0 := (hb1.cell (cell_lt x0)).trans x0; have c1 := (hb1.cell (cell_lt x1)).trans x1; have c2 := (hb1.cell (cell_lt x2)).trans x2; have c3 := (hb1.cell (cell_lt x3)).trans x3; have c4 := (hb1.cell (cell_lt x4)).trans x4; have c5 := (hb1.cell (cell_lt x5)).trans x5
      clear hb1
      go_wp2_with fail
      go_loopw [7] (fun iv wr => (iv = .int .i64 0 ∨ (iv = .int .i64 1 ∧ Hid (e0.fnd c = none))) ∧ Hid (Below WB.heap.size WB wr)) (fun iv _ => 2 - (intOf iv).toNat)
      case atStart => exact ⟨.inl rfl, HB1⟩
      case round =>
        obtain ⟨hj, hbr⟩ := hrel
        have y0 := (hbr.out.cell (cell_lt x0)).trans x0
        have y1 := (hbr.out.cell (cell_lt x1)).trans x1
        have y2 := (hbr.out.cell (cell_lt x2)).trans x2
        have y3 := (hbr.out.cell (cell_lt x3)).trans x3
        have y4 := (hbr.out.cell (cell_lt x4)).trans x4
        have y5 := (hbr.out.cell (cell_lt x5)).trans x5
        have HBW := Lib.hid (bnext HB.out hbr.out)
        have hzr := has_under HZ.out hbr.out
        clear c0 c1 c2 c3 c4 c5 x0 x1 x2 x3 x4 x5
        rcases hj with rfl | ⟨rfl, hn0⟩
        · have HI := Lib.hid (HI0.out wr HBW.out)
          go_wp2_with fail
          refine HI.out.mono ?_
          rintro r w2 ⟨x, rfl, hx, hb2⟩
          have HFC := Lib.hid (F0.out x w2 (bnext HBW.out hb2) hx)
          have HB2 := Lib.hid (bnext hbr.out hb2)
          clear hx hb2
          go_wp2_with fail
          refine HFC.out.mono ?_
          rintro r w3 ⟨y, rfl, hy, hb3⟩
          have hb23 := bnext HB2.out hb3
          have HB3 := Lib.hid hb23
          cases hfi : e0.fnd c with
          | none =>
            rw [hfi] at hy
            cases hy
            have HN := Lib.hid hfi
            clear hfi hb3 hb23
            go_wp2_with fail
            go_roundw
            case rel => exact ⟨.inr ⟨rfl, (by first | exact HN | exact Lib.hid trivial)⟩, Lib.hid (below_alloc HB3.out _)⟩
            case measure => simp [intOf]
          | some z =>
            rw [hfi] at hy
            have HY := Lib.hid (show DV w0 z y from hy)
            obtain ⟨p2, cap2, ey, _⟩ := DV.parts (show DV w0 z y from hy)
            subst ey
            have HN := Lib.hid (show f = some z by rw [HFF.out, hfi])
            have hz3 := has_under HZ.out hb23
            have d0 := has_cell hz3 0
            have d1 := has_cell hz3 1
            have d2 := has_cell hz3 2
            have d3 := has_cell hz3 3
            have d4 := has_cell hz3 4
            have d5 := has_cell hz3 5
            simp only [List.getElem?_toArray, List.getElem?_cons_zero, List.getElem?_cons_succ] at d0 d1 d2 d3 d4 d5
            have f0 := has_free hz3 0
            have f1 := has_free hz3 1
            have f2 := has_free hz3 2
            have f3 := has_free hz3 3
            have f4 := has_free hz3 4
            have f5 := has_free hz3 5
            have HL := Lib.hid (has_lt hz3)
            have hl3 := has_lt hz3
            clear hfi hb3 hb23 hy hz3 hzr
            generalize z.k = zk at *; generalize z.op = zo at *; generalize z.h = zh at *; generalize z.n = zn at *; generalize z.t = zt at *; generalize z.m = zm at *
            go_wp2_with fail
            have hbw3 := bnext HB.out HB3.out
            have hs3 := hbw3.size
            have ha : ∀ (W : World) (o : Obj) (j : Nat), W.heap.size = w3.heap.size → (W.alloc o).cell? ⟨w.heap.size + 1, j, none⟩ = W.cell? ⟨w.heap.size + 1, j, none⟩ := fun W o j e => World.cell?_alloc_lt _ _ _ (by rw [e]; exact HL.out)
            refine bodyPost_ret (v := .tuple #[.agg #[.int .i64 zk, .int .i64 zo, .int .i64 zh, .int .i64 zn, .string zt, .slice p2 zm cap2], .bool true]) (by simp [results, Tryd.results27, go_sem, ha, d0, d1, d2, d3, d4, d5]) rfl ⟨_, by rw [HN.out]; rfl, by rw [HN.out]; exact HY.out, ?_⟩
            refine Below.alloc ?_ (by simpa using hs3) _
            iterate 6 (refine Below.setCell ?_ (Nat.le_succ _) _)
            exact hbw3
        · have HN := Lib.hid (show f = none by rw [HFF.out, hn0.out])
          have d0 := has_cell hzr 0
          have d1 := has_cell hzr 1
          have d2 := has_cell hzr 2
          have d3 := has_cell hzr 3
          have d4 := has_cell hzr 4
          have d5 := has_cell hzr 5
          simp only [List.getElem?_toArray, List.getElem?_cons_zero, List.getElem?_cons_succ] at d0 d1 d2 d3 d4 d5
          have f0 := has_free hzr 0
          have f1 := has_free hzr 1
          have f2 := has_free hzr 2
          have f3 := has_free hzr 3
          have f4 := has_free hzr 4
          have f5 := has_free hzr 5
          clear hzr
          go_wp2_with fail
          have hbw3 := HBW.out
          have hs3 := hbw3.size
          refine bodyPost_ret (v := .tuple #[.agg #[.int .i64 0, .int .i64 0, .int .i64 0, .int .i64 0, .string ⟨#[]⟩, .slice none 0 0], .bool false]) (by simp [results, Tryd.results27, go_sem, d0, d1, d2, d3, d4, d5]) rfl ⟨_, by rw [HN.out]; rfl, by rw [HN.out]; rfl, ?_⟩
          iterate 6 (refine Below.setCell ?_ (Nat.le_succ _) _)
          exact hbw3
    by_cases k3 : k = 3
    · have q2 : (k == 2) = false := by rw [k3]; rfl
      have q3 : (k == 3) = true := by rw [k3]; rfl
      rw [if_pos (.inr k3)] at HFF
      have F0 := Lib.hid (F0.out (.inr (.inl k3)))
      clear k2 k3
      go_enter Tryd.func27, Tryd.ntmps27
      go_wp2_with fail
      rw [← HW.out]
      refine HKB.out.mono ?_
      rintro r w1 ⟨rfl, hb1⟩
      have HB1 := Lib.hid hb1
      have c0 := (hb1.cell (cell_lt x0)).trans x0; have c1 := (hb1.cell (cell_lt x1)).trans x1; have c2 := (hb1.cell (cell_lt x2)).trans x2; have c3 := (hb1.cell (cell_lt x3)).trans x3; have c4 := (hb1.cell (cell_lt x4)).trans x4; have c5 := (hb1.cell (cell_lt x5)).trans x5
      clear hb1
      go_wp2_with fail
      go_loopw [7] (fun iv wr => (iv = .int .i64 0 ∨ (iv = .int .i64 1 ∧ Hid (e0.fnd c = none))) ∧ Hid (Below WB.heap.size WB wr)) (fun iv _ => 2 - (intOf iv).toNat)
      case atStart => exact ⟨.inl rfl, HB1⟩
      case round =>
        obtain ⟨hj, hbr⟩ := hrel
        have y0 := (hbr.out.cell (cell_lt x0)).trans x0
        have y1 := (hbr.out.cell (cell_lt x1)).trans x1
        have y2 := (hbr.out.cell (cell_lt x2)).trans x2
        have y3 := (hbr.out.cell (cell_lt x3)).trans x3
        have y4 := (hbr.out.cell (cell_lt x4)).trans x4
        have y5 := (hbr.out.cell (cell_lt x5)).trans x5
        have HBW := Lib.hid (bnext HB.out hbr.out)
        have hzr := has_under HZ.out hbr.out
        clear c0 c1 c2 c3 c4 c5 x0 x1 x2 x3 x4 x5
        rcases hj with rfl | ⟨rfl, hn0⟩
        · have HI := Lib.hid (HI0.out wr HBW.out)
          go_wp2_with fail
          refine HI.out.mono ?_
          rintro r w2 ⟨x, rfl, hx, hb2⟩
          have HFC := Lib.hid (F0.out x w2 (bnext HBW.out hb2) hx)
          have HB2 := Lib.hid (bnext hbr.out hb2)
          clear hx hb2
          go_wp2_with fail
          refine HFC.out.mono ?_
          rintro r w3 ⟨y, rfl, hy, hb3⟩
          have hb23 := bnext HB2.out hb3
          have HB3 := Lib.hid hb23
          cases hfi : e0.fnd c with
          | none =>
            rw [hfi] at hy
            cases hy
            have HN := Lib.hid hfi
            clear hfi hb3 hb23
            go_wp2_with fail
            go_roundw
            case rel => exact ⟨.inr ⟨rfl, (by first | exact HN | exact Lib.hid trivial)⟩, Lib.hid (below_alloc HB3.out _)⟩
            case measure => simp [intOf]
          | some z =>
            rw [hfi] at hy
            have HY := Lib.hid (show DV w0 z y from hy)
            obtain ⟨p2, cap2, ey, _⟩ := DV.parts (show DV w0 z y from hy)
            subst ey
            have HN := Lib.hid (show f = some z by rw [HFF.out, hfi])
            have hz3 := has_under HZ.out hb23
            have d0 := has_cell hz3 0
            have d1 := has_cell hz3 1
            have d2 := has_cell hz3 2
            have d3 := has_cell hz3 3
            have d4 := has_cell hz3 4
            have d5 := has_cell hz3 5
            simp only [List.getElem?_toArray, List.getElem?_cons_zero, List.getElem?_cons_succ] at d0 d1 d2 d3 d4 d5
            have f0 := has_free hz3 0
            have f1 := has_free hz3 1
            have f2 := has_free hz3 2
            have f3 := has_free hz3 3
            have f4 := has_free hz3 4
            have f5 := has_free hz3 5
            have HL := Lib.hid (has_lt hz3)
            have hl3 := has_lt hz3
            clear hfi hb3 hb23 hy hz3 hzr
            generalize z.k = zk at *; generalize z.op = zo at *; generalize z.h = zh at *; generalize z.n = zn at *; generalize z.t = zt at *; generalize z.m = zm at *
            go_wp2_with fail
            have hbw3 := bnext HB.out HB3.out
            have hs3 := hbw3.size
            have ha : ∀ (W : World) (o : Obj) (j : Nat), W.heap.size = w3.heap.size → (W.alloc o).cell? ⟨w.heap.size + 1, j, none⟩ = W.cell? ⟨w.heap.size + 1, j, none⟩ := fun W o j e => World.cell?_alloc_lt _ _ _ (by rw [e]; exact HL.out)
            refine bodyPost_ret (v := .tuple #[.agg #[.int .i64 zk, .int .i64 zo, .int .i64 zh, .int .i64 zn, .string zt, .slice p2 zm cap2], .bool true]) (by simp [results, Tryd.results27, go_sem, ha, d0, d1, d2, d3, d4, d5]) rfl ⟨_, by rw [HN.out]; rfl, by rw [HN.out]; exact HY.out, ?_⟩
            refine Below.alloc ?_ (by simpa using hs3) _
            iterate 6 (refine Below.setCell ?_ (Nat.le_succ _) _)
            exact hbw3
        · have HN := Lib.hid (show f = none by rw [HFF.out, hn0.out])
          have d0 := has_cell hzr 0
          have d1 := has_cell hzr 1
          have d2 := has_cell hzr 2
          have d3 := has_cell hzr 3
          have d4 := has_cell hzr 4
          have d5 := has_cell hzr 5
          simp only [List.getElem?_toArray, List.getElem?_cons_zero, List.getElem?_cons_succ] at d0 d1 d2 d3 d4 d5
          have f0 := has_free hzr 0
          have f1 := has_free hzr 1
          have f2 := has_free hzr 2
          have f3 := has_free hzr 3
          have f4 := has_free hzr 4
          have f5 := has_free hzr 5
          clear hzr
          go_wp2_with fail
          have hbw3 := HBW.out
          have hs3 := hbw3.size
          refine bodyPost_ret (v := .tuple #[.agg #[.int .i64 0, .int .i64 0, .int .i64 0, .int .i64 0, .string ⟨#[]⟩, .slice none 0 0], .bool false]) (by simp [results, Tryd.results27, go_sem, d0, d1, d2, d3, d4, d5]) rfl ⟨_, by rw [HN.out]; rfl, by rw [HN.out]; rfl, ?_⟩
          iterate 6 (refine Below.setCell ?_ (Nat.le_succ _) _)
          exact hbw3
    by_cases k4 : k = 4
    · have q2 : (k == 2) = false := by rw [k4]; rfl
      have q3 : (k == 3) = false := by rw [k4]; rfl
      have q4 : (k == 4) = true := by rw [k4]; rfl
      rw [if_neg (show ¬ (k = 2 ∨ k = 3) by omega), if_pos k4] at HFF
      have F0 := Lib.hid (F0.out (.inr (.inr k4)))
      have F1 := Lib.hid (F1.out (.inr (.inr k4)))
      clear k2 k3 k4
      go_enter Tryd.func27, Tryd.ntmps27
      go_wp2_with fail
      rw [← HW.out]
      refine HKB.out.mono ?_
      rintro r w1 ⟨rfl, hb1⟩
      have HB1 := Lib.hid hb1
      have c0 := (hb1.cell (cell_lt x0)).trans x0; have c1 := (hb1.cell (cell_lt x1)).trans x1; have c2 := (hb1.cell (cell_lt x2)).trans x2; have c3 := (hb1.cell (cell_lt x3)).trans x3; have c4 := (hb1.cell (cell_lt x4)).trans x4; have c5 := (hb1.cell (cell_lt x5)).trans x5
      clear hb1
      go_wp2_with fail
      go_loopw [7] (fun iv wr => (iv = .int .i64 0 ∨ (iv = .int .i64 1 ∧ Hid (e0.fnd c = none)) ∨ (iv = .int .i64 2 ∧ Hid (e0.fnd c = none) ∧ Hid (e1.fnd c = none))) ∧ Hid (Below WB.heap.size WB wr)) (fun iv _ => 2 - (intOf iv).toNat)
      case atStart => exact ⟨.inl rfl, HB1⟩
      case round =>
        obtain ⟨hj, hbr⟩ := hrel
        have y0 := (hbr.out.cell (cell_lt x0)).trans x0
        have y1 := (hbr.out.cell (cell_lt x1)).trans x1
        have y2 := (hbr.out.cell (cell_lt x2)).trans x2
        have y3 := (hbr.out.cell (cell_lt x3)).trans x3
        have y4 := (hbr.out.cell (cell_lt x4)).trans x4
        have y5 := (hbr.out.cell (cell_lt x5)).trans x5
        have HBW := Lib.hid (bnext HB.out hbr.out)
        have hzr := has_under HZ.out hbr.out
        clear c0 c1 c2 c3 c4 c5 x0 x1 x2 x3 x4 x5
        rcases hj with rfl | ⟨rfl, hn0⟩ | ⟨rfl, hn0, hn1⟩
        · have HI := Lib.hid (HI0.out wr HBW.out)
          go_wp2_with fail
          refine HI.out.mono ?_
          rintro r w2 ⟨x, rfl, hx, hb2⟩
          have HFC := Lib.hid (F0.out x w2 (bnext HBW.out hb2) hx)
          have HB2 := Lib.hid (bnext hbr.out hb2)
          clear hx hb2
          go_wp2_with fail
          refine HFC.out.mono ?_
          rintro r w3 ⟨y, rfl, hy, hb3⟩
          have hb23 := bnext HB2.out hb3
          have HB3 := Lib.hid hb23
          cases hfi : e0.fnd c with
          | none =>
            rw [hfi] at hy
            cases hy
            have HN := Lib.hid hfi
            clear hfi hb3 hb23
            go_wp2_with fail
            go_roundw
            case rel => exact ⟨.inr (.inl ⟨rfl, (by first | exact HN | exact Lib.hid trivial)⟩), Lib.hid (below_alloc HB3.out _)⟩
            case measure => simp [intOf]
          | some z =>
            rw [hfi] at hy
            have HY := Lib.hid (show DV w0 z y from hy)
            obtain ⟨p2, cap2, ey, _⟩ := DV.parts (show DV w0 z y from hy)
            subst ey
            have HN := Lib.hid (show f = some z by rw [HFF.out, hfi])
            have hz3 := has_under HZ.out hb23
            have d0 := has_cell hz3 0
            have d1 := has_cell hz3 1
            have d2 := has_cell hz3 2
            have d3 := has_cell hz3 3
            have d4 := has_cell hz3 4
            have d5 := has_cell hz3 5
            simp only [List.getElem?_toArray, List.getElem?_cons_zero, List.getElem?_cons_succ] at d0 d1 d2 d3 d4 d5
            have f0 := has_free hz3 0
            have f1 := has_free hz3 1
            have f2 := has_free hz3 2
            have f3 := has_free hz3 3
            have f4 := has_free hz3 4
            have f5 := has_free hz3 5
            have HL := Lib.hid (has_lt hz3)
            have hl3 := has_lt hz3
            clear hfi hb3 hb23 hy hz3 hzr
            generalize z.k = zk at *; generalize z.op = zo at *; generalize z.h = zh at *; generalize z.n = zn at *; generalize z.t = zt at *; generalize z.m = zm at *
            go_wp2_with fail
            have hbw3 := bnext HB.out HB3.out
            have hs3 := hbw3.size
            have ha : ∀ (W : World) (o : Obj) (j : Nat), W.heap.size = w3.heap.size → (W.alloc o).cell? ⟨w.heap.size + 1, j, none⟩ = W.cell? ⟨w.heap.size + 1, j, none⟩ := fun W o j e => World.cell?_alloc_lt _ _ _ (by rw [e]; exact HL.out)
            refine bodyPost_ret (v := .tuple #[.agg #[.int .i64 zk, .int .i64 zo, .int .i64 zh, .int .i64 zn, .string zt, .slice p2 zm cap2], .bool true]) (by simp [results, Tryd.results27, go_sem, ha, d0, d1, d2, d3, d4, d5]) rfl ⟨_, by rw [HN.out]; rfl, by rw [HN.out]; exact HY.out, ?_⟩
            refine Below.alloc ?_ (by simpa using hs3) _
            iterate 6 (refine Below.setCell ?_ (Nat.le_succ _) _)
            exact hbw3
        · have HI := Lib.hid (HI1.out wr HBW.out)
          go_wp2_with fail
          refine HI.out.mono ?_
          rintro r w2 ⟨x, rfl, hx, hb2⟩
          have HFC := Lib.hid (F1.out x w2 (bnext HBW.out hb2) hx)
          have HB2 := Lib.hid (bnext hbr.out hb2)
          clear hx hb2
          go_wp2_with fail
          refine HFC.out.mono ?_
          rintro r w3 ⟨y, rfl, hy, hb3⟩
          have hb23 := bnext HB2.out hb3
          have HB3 := Lib.hid hb23
          cases hfi : e1.fnd c with
          | none =>
            rw [hfi] at hy
            cases hy
            have HN := Lib.hid hfi
            clear hfi hb3 hb23
            go_wp2_with fail
            go_roundw
            case rel => exact ⟨.inr (.inr ⟨rfl, hn0, (by first | exact HN | exact Lib.hid trivial)⟩), Lib.hid (below_alloc HB3.out _)⟩
            case measure => simp [intOf]
          | some z =>
            rw [hfi] at hy
            have HY := Lib.hid (show DV w0 z y from hy)
            obtain ⟨p2, cap2, ey, _⟩ := DV.parts (show DV w0 z y from hy)
            subst ey
            have HN := Lib.hid (show f = some z by rw [HFF.out, hn0.out, hfi])
            have hz3 := has_under HZ.out hb23
            have d0 := has_cell hz3 0
            have d1 := has_cell hz3 1
            have d2 := has_cell hz3 2
            have d3 := has_cell hz3 3
            have d4 := has_cell hz3 4
            have d5 := has_cell hz3 5
            simp only [List.getElem?_toArray, List.getElem?_cons_zero, List.getElem?_cons_succ] at d0 d1 d2 d3 d4 d5
            have f0 := has_free hz3 0
            have f1 := has_free hz3 1
            have f2 := has_free hz3 2
            have f3 := has_free hz3 3
            have f4 := has_free hz3 4
            have f5 := has_free hz3 5
            have HL := Lib.hid (has_lt hz3)
            have hl3 := has_lt hz3
            clear hfi hb3 hb23 hy hz3 hzr
            generalize z.k = zk at *; generalize z.op = zo at *; generalize z.h = zh at *; generalize z.n = zn at *; generalize z.t = zt at *; generalize z.m = zm at *
            go_wp2_with fail
            have hbw3 := bnext HB.out HB3.out
            have hs3 := hbw3.size
            have ha : ∀ (W : World) (o : Obj) (j : Nat), W.heap.size = w3.heap.size → (W.alloc o).cell? ⟨w.heap.size + 1, j, none⟩ = W.cell? ⟨w.heap.size + 1, j, none⟩ := fun W o j e => World.cell?_alloc_lt _ _ _ (by rw [e]; exact HL.out)
            refine bodyPost_ret (v := .tuple #[.agg #[.int .i64 zk, .int .i64 zo, .int .i64 zh, .int .i64 zn, .string zt, .slice p2 zm cap2], .bool true]) (by simp [results, Tryd.results27, go_sem, ha, d0, d1, d2, d3, d4, d5]) rfl ⟨_, by rw [HN.out]; rfl, by rw [HN.out]; exact HY.out, ?_⟩
            refine Below.alloc ?_ (by simpa using hs3) _
            iterate 6 (refine Below.setCell ?_ (Nat.le_succ _) _)
            exact hbw3
        · have HN := Lib.hid (show f = none by rw [HFF.out, hn0.out, hn1.out])
          have d0 := has_cell hzr 0
          have d1 := has_cell hzr 1
          have d2 := has_cell hzr 2
          have d3 := has_cell hzr 3
          have d4 := has_cell hzr 4
          have d5 := has_cell hzr 5
          simp only [List.getElem?_toArray, List.getElem?_cons_zero, List.getElem?_cons_succ] at d0 d1 d2 d3 d4 d5
          have f0 := has_free hzr 0
          have f1 := has_free hzr 1
          have f2 := has_free hzr 2
          have f3 := has_free hzr 3
          have f4 := has_free hzr 4
          have f5 := has_free hzr 5
          clear hzr
          go_wp2_with fail
          have hbw3 := HBW.out
          have hs3 := hbw3.size
          refine bodyPost_ret (v := .tuple #[.agg #[.int .i64 0, .int .i64 0, .int .i64 0, .int .i64 0, .string ⟨#[]⟩, .slice none 0 0], .bool false]) (by simp [results, Tryd.results27, go_sem, d0, d1, d2, d3, d4, d5]) rfl ⟨_, by rw [HN.out]; rfl, by rw [HN.out]; rfl, ?_⟩
          iterate 6 (refine Below.setCell ?_ (Nat.le_succ _) _)
          exact hbw3
    have q2 : (k == 2) = false := beq_eq_false_iff_ne.2 k2
    have q3 : (k == 3) = false := beq_eq_false_iff_ne.2 k3
    have q4 : (k == 4) = false := beq_eq_false_iff_ne.2 k4
    rw [if_neg (show ¬ (k = 2 ∨ k = 3) by omega), if_neg k4] at HFF
    clear k2 k3 k4
    go_enter Tryd.func27, Tryd.ntmps27
    go_wp2_with fail
    rw [← HW.out]
    refine HKB.out.mono ?_
    rintro r w1 ⟨rfl, hb1⟩
    have HB1 := Lib.hid hb1
    have c0 := (hb1.cell (cell_lt x0)).trans x0; have c1 := (hb1.cell (cell_lt x1)).trans x1; have c2 := (hb1.cell (cell_lt x2)).trans x2; have c3 := (hb1.cell (cell_lt x3)).trans x3; have c4 := (hb1.cell (cell_lt x4)).trans x4; have c5 := (hb1.cell (cell_lt x5)).trans x5
    clear hb1
    go_wp2_with fail
    go_loopw [7] (fun iv wr => (iv = .int .i64 0) ∧ Hid (Below WB.heap.size WB wr)) (fun iv _ => 2 - (intOf iv).toNat)
    case atStart => exact ⟨rfl, HB1⟩
    case round =>
      obtain ⟨hj, hbr⟩ := hrel
      have y0 := (hbr.out.cell (cell_lt x0)).trans x0
      have y1 := (hbr.out.cell (cell_lt x1)).trans x1
      have y2 := (hbr.out.cell (cell_lt x2)).trans x2
      have y3 := (hbr.out.cell (cell_lt x3)).trans x3
      have y4 := (hbr.out.cell (cell_lt x4)).trans x4
      have y5 := (hbr.out.cell (cell_lt x5)).trans x5
      have HBW := Lib.hid (bnext HB.out hbr.out)
      have hzr := has_under HZ.out hbr.out
      clear c0 c1 c2 c3 c4 c5 x0 x1 x2 x3 x4 x5
      subst hj
      have HN := Lib.hid (show f = none from HFF.out.trans (by rfl))
      have d0 := has_cell hzr 0
      have d1 := has_cell hzr 1
      have d2 := has_cell hzr 2
      have d3 := has_cell hzr 3
      have d4 := has_cell hzr 4
      have d5 := has_cell hzr 5
      simp only [List.getElem?_toArray, List.getElem?_cons_zero, List.getElem?_cons_succ] at d0 d1 d2 d3 d4 d5
      have f0 := has_free hzr 0
      have f1 := has_free hzr 1
      have f2 := has_free hzr 2
      have f3 := has_free hzr 3
      have f4 := has_free hzr 4
      have f5 := has_free hzr 5
      clear hzr
      go_wp2_with fail
      have hbw3 := HBW.out
      have hs3 := hbw3.size
      refine bodyPost_ret (v := .tuple #[.agg #[.int .i64 0, .int .i64 0, .int .i64 0, .int .i64 0, .string ⟨#[]⟩, .slice none 0 0], .bool false]) (by simp [results, Tryd.results27, go_sem, d0, d1, d2, d3, d4, d5]) rfl ⟨_, by rw [HN.out]; rfl, by rw [HN.out]; rfl, ?_⟩
      iterate 6 (refine Below.setCell ?_ (Nat.le_succ _) _)
      exact hbw3
theorem found_nil (c : Int) (hc : c = 1 ∨ c = 2 ∨ c = 3) (w0 : World) (v : Value) (w : World) (hb : Below w0.heap.size w0 w) (hv : DV w0 .nil v) : Calls Tryd.prog 27 #[v, .int .i64 c] w (FoundP c w0 w .nil) :=
  found_gen .nil c hc w0 (fun h => absurd h (by decide)) (fun h => absurd h (by decide)) v w hb hv
theorem found_any (c : Int) (hc : c = 1 ∨ c = 2 ∨ c = 3) (w0 : World) : ∀ (d : Dt) (v : Value) (w : World), Below w0.heap.size w0 w → DV w0 d v → Calls Tryd.prog 27 #[v, .int .i64 c] w (FoundP c w0 w d) := by
  intro d
  have hnil : ∀ (v : Value) (w : World), Below w0.heap.size w0 w → DV w0 .nil v → Calls Tryd.prog 27 #[v, .int .i64 c] w (FoundP c w0 w .nil) := fun v w hb hv => found_nil c hc w0 v w hb hv
  induction d with
  | nil => exact hnil
  | mk k op h n t m a b iha ihb =>
    refine found_gen _ c hc w0 (fun _ => ?_) (fun _ => ?_)
    · rw [Dt.kid0_mk]
      by_cases hm : 0 < m
      · rw [if_pos hm]; exact iha
      · rw [if_neg hm]; exact hnil
    · rw [Dt.kid1_mk]
      by_cases hm : 1 < m
      · rw [if_pos hm]; exact ihb
      · rw [if_neg hm]; exact hnil
end Go.Proofs.YtlnamkplbikcjaaDoor
