/- Texts of stages 3, 4, 12, 13 and 14 that stand together: ZSaveR JSave JNew ZSSlotsR JLdN JLdY JPlL JPlW JInv JNum; no condition but those that each row names. -/
import Derived.Test.YtedgchafligndaaGreatJB2
import Derived.Test.YtedgchafligndaaGreatJB8
import Derived.Test.YtedgchafligndaaGreatJB9
import Derived.Test.YtedgchafligndaaGreatJB10
import Derived.Deep.OwnRows
import Derived.Deep.RegionHeld
/- The document's own Save of a leaf; no condition but those that each row names. -/
namespace Go.Proofs.YtedgchafligndaaGreat
open Go.RowKit Tsk

/-- The tasks of the slots below i that are taken. -/
def told (t : Nat → Bool) (F : Nat → Tk) (i : Nat) : Nat → Tk := fun j => F ((idxTo t i).getD j 0)
theorem told_yes {t : Nat → Bool} {F : Nat → Tk} {i : Nat} (h : t i = true) : tkL (told t F (i + 1)) (idxTo t (i + 1)).length = tkL (told t F i) (idxTo t i).length ++ [.int .i64 (F i).p, (F i).s, .int .i64 (F i).k.g, .int .i64 (F i).k.o, .int .i64 (F i).k.n, .int .i64 (F i).k.d, .int .i64 (F i).k.c, .int .i64 (F i).k.t] := by
  have e := idxTo_yes h
  have hl : (idxTo t (i + 1)).length = (idxTo t i).length + 1 := by rw [e, List.length_append]; rfl
  have hF : told t F (i + 1) (idxTo t i).length = F i := by unfold told; rw [e]; simp [List.getD_eq_getElem?_getD]
  rw [hl, tkL_succ, hF, tkL_congr (T' := told t F i)]
  intro j hj
  unfold told
  rw [e]
  simp [List.getD_eq_getElem?_getD, List.getElem?_append_left hj]
theorem told_len {t : Nat → Bool} {i : Nat} (h : t i = true) : (idxTo t (i + 1)).length = (idxTo t i).length + 1 := by rw [idxTo_yes h, List.length_append]; rfl
/-- What the document's Save answers. -/
def SaveR13 (w : World) (A : Tab) (T : Nat → Tk) (e : Ending) (w' : World) : Prop :=
  ∃ gs ts x sl, e = .returned (.tuple #[gs, ts, x]) ∧ Lst (fun _ => False) w' gs (ints A.gens) ∧ Lst (fun _ => False) w' ts (bools A.taken) ∧ Tasks w' x A.idxs.length (tm (toldF A T) sl) ∧ Below w.heap.size w w'
end Go.Proofs.YtedgchafligndaaGreat
/- The document's own pool: Save; no condition but those that each row names. -/
namespace Go.Proofs.YtedgchafligndaaGreat
open Go.RowKit Tsk

/-- What the document's Save answers: rows and tasks in new memory. -/
def SaveR14 (w : World) (A : Tab) (T : Nat → Tk) (last : Int) (e : Ending) (w' : World) : Prop :=
  ∃ gs ts x sl, e = .returned (.tuple #[gs, ts, x, .int .i64 last]) ∧ Lst (fun x => x < w.heap.size) w' gs (ints A.gens) ∧ Lst (fun x => x < w.heap.size) w' ts (bools A.taken) ∧ TasksX (fun x => x < w.heap.size) w' x A.idxs.length (tm (toldF A T) sl) ∧ Below w.heap.size w w'
set_option maxHeartbeats 4000000 in
set_option maxRecDepth 100000 in
theorem rsave14 (X : Nat → Prop) (A : Tab) (T : Nat → Tk) (last : Int) (hg : PGood A T last) (gs ts ks : Value) (w : World) (h : DP X w A T gs ts ks) :
    Calls Tryz.prog 31 #[pv gs ts ks last] w (SaveR14 w A T last) := by
  have h16 := hg.len
  have hlt := hg.tab.lt
  have HLN := Lib.hid (⟨h16, hlt⟩ : _ ∧ _)
  have e16 : A.idxs = idxTo A.t 16 := by show idxTo A.t A.n = _; rw [show A.n = 16 from h16]
  have HE := Lib.hid e16
  have HTW := Lib.hid (fun W (hb : Below w.heap.size w W) => rtwin14 X A T last hg gs ts ks W (h.below hb))
  obtain ⟨p, cp, q, cq, r, cr, sl, rfl, rfl, rfl, _, _, _⟩ := h.shape hg
  obtain ⟨WA, hWA⟩ : ∃ WA, WA = w.alloc (.cells #[.slice p 16 cp, .slice q 16 cq, .slice r 16 cr, .int .i64 last] PT14) := ⟨_, rfl⟩
  have HB := Lib.hid (show Below w.heap.size w WA from by rw [hWA]; exact (Below.refl _ _).alloc (Nat.le_refl _) _)
  have HT := Lib.hid (show HasP WA w.heap.size (.slice p 16 cp) (.slice q 16 cq) (.slice r 16 cr) last from by rw [hWA]; exact hasP_new _ _ _ _ _)
  have HW := Lib.hid hWA
  clear hWA h hg h16 hlt e16
  go_enter Tryz.func31, Tryz.ntmps31
  go_upto_region 1 with fail
  rw [← HW.out]
  obtain ⟨a0, a1, a2, a3⟩ := HasP.cells HT.out
  have HTW1 := Lib.hid (HTW.out WA HB.out)
  go_wp2_with fail
  refine HTW1.out.mono ?_
  rintro e w2 ⟨gs2, ts2, ks2, sl2, rfl, ho2, hb2⟩
  obtain ⟨g1, c1, g2, c2, g3, c3, rfl, rfl, rfl, y1, y2, y3, n1, n2, n3⟩ := ho2.blocks
  obtain ⟨W2, hW2⟩ : ∃ W2, W2 = w2.alloc (.cells #[.slice (some ⟨g1, 0, none⟩) 16 c1, .slice (some ⟨g2, 0, none⟩) 16 c2, .slice (some ⟨g3, 0, none⟩) 16 c3, .int .i64 last] PT14) := ⟨_, rfl⟩
  have HQ2 := Lib.hid (show HasP W2 w2.heap.size (.slice (some ⟨g1, 0, none⟩) 16 c1) (.slice (some ⟨g2, 0, none⟩) 16 c2) (.slice (some ⟨g3, 0, none⟩) 16 c3) last from by rw [hW2]; exact hasP_new _ _ _ _ _)
  have HW2 := Lib.hid (show Below w2.heap.size w2 W2 ∧ W2.heap.size = w2.heap.size + 1 from by rw [hW2]; exact ⟨(Below.refl _ _).alloc (Nat.le_refl _) _, by simp⟩)
  have HO2 := Lib.hid (ho2.under HW2.out.1)
  have HB2 := Lib.hid (bnext (bnext HB.out hb2) HW2.out.1)
  have HS2 := Lib.hid (show w.heap.size ≤ WA.heap.size from HB.out.size)
  have HE2 := Lib.hid hW2
  clear hW2 ho2 hb2 a0 a1 a2 a3
  go_upto_region 2 with fail
  rw [← HE2.out]
  clear HE2
  generalize w2.heap.size = qb at *
  obtain ⟨a0, a1, a2, a3⟩ := HasP.cells HQ2.out
  go_wp2_with fail
  go_loopw [7, 8] (fun mv iv wr => ∃ (i : Nat) (xv : Value), xv = mv ∧ iv = .int .i64 i ∧ i ≤ 16 ∧ Hid (wr.ownsRow W2.heap.size KT 8 mv (idxTo A.t i).length (tkL (told A.t (tm T sl2) i) (idxTo A.t i).length)) ∧ Hid (Below W2.heap.size W2 wr)) (fun _ iv _ => 16 - (intOf iv).toNat)
  case atStart => exact ⟨0, _, rfl, rfl, Nat.zero_le _, Lib.hid (World.ownsRow_nil _ _ _ _), Lib.hid (Below.refl _ _)⟩
  case round =>
    clear a0 a1 a2 a3
    obtain ⟨i, xv, rfl, rfl, hi, HX, HBX⟩ := hrel
    obtain ⟨a0, a1, a2, a3⟩ := HasP.cells (HasP.below HQ2.out HBX.out)
    have HOI := Lib.hid (HO2.out.under HBX.out)
    have z0 : (0 : Int) ≤ (i : Int) := by omega
    have hlen := idxTo_len A.t i
    by_cases hi16 : i < 16
    · have z1 : (i : Int) < 16 := by omega
      have k2 := (World.ownsRow.cellAt HOI.out.t i (by omega)).trans (bools_at (by have := HLN.out; omega))
      have k2' : wr.cell? ⟨g2, i, none⟩ = some (.bool (A.t i)) := k2
      clear k2
      generalize hti : A.t i = tk at *
      cases tk with
      | false =>
        have HX2 := Lib.hid (show wr.ownsRow W2.heap.size KT 8 xv (idxTo A.t (i + 1)).length (tkL (told A.t (tm T sl2) (i + 1)) (idxTo A.t (i + 1)).length) from by
          have e := idxTo_no hti
          unfold told
          rw [e]
          exact HX.out)
        clear hti
        go_wp2_with fail
        go_roundw
        case rel => exact ⟨i + 1, _, rfl, by go_num, by omega, HX2, HBX⟩
        case measure => simp [intOf]; omega
      | true =>
        have HY := Lib.hid (told_yes (F := tm T sl2) hti)
        have HYL := Lib.hid (told_len hti)
        have qq := fun (r : Nat) (hr : r < 8) => (World.ownsRow.cellAt HOI.out.k (i * 8 + r) (by omega)).trans (tkL_at (tm T sl2) hi16 r hr)
        have d0 := qq 0 (by omega)
        have d1 := qq 1 (by omega)
        have d2 := qq 2 (by omega)
        have d3 := qq 3 (by omega)
        have d4 := qq 4 (by omega)
        have d5 := qq 5 (by omega)
        have d6 := qq 6 (by omega)
        have d7 := qq 7 (by omega)
        rw [Nat.add_zero] at d0
        have hJ := (HOI.out.j i hi16).1
        clear qq
        change Jobs wr (tm T sl2 i).s (T i).n (T i).f at hJ
        obtain ⟨s1, cs1, hs1, _⟩ := hJ
        obtain ⟨t, ht⟩ : ∃ t, t = tm T sl2 i := ⟨_, rfl⟩
        have htn : (T i).n = t.n := by rw [ht]; rfl
        rw [htn] at hs1
        clear htn
        rw [← ht] at d0 d1 d2 d3 d4 d5 d6 d7 hs1 HY
        obtain ⟨tp, tj, tn, tf, ⟨kg, ko, kn, kd, kc, kt⟩⟩ := t
        dsimp only [prtT] at hs1 d0 d1 d2 d3 d4 d5 d6 d7 HY
        subst hs1
        clear hti ht
        go_wp2_with (at_builtin; refine wpList_append_tasks rfl _ _ rfl W2.heap.size xv (idxTo A.t i).length (tkL (told A.t (tm T sl2) i) (idxTo A.t i).length) rfl (HX.out.alloc _) _ 1 [.int .i64 tp, .slice s1 tn cs1, .int .i64 kg, .int .i64 ko, .int .i64 kn, .int .i64 kd, .int .i64 kc, .int .i64 kt] rfl (src_onet wr tp (.slice s1 tn cs1) ⟨kg, ko, kn, kd, kc, kt⟩ _) ?a1 ?a2 ?a3 ?_)
        case a1 => exact ⟨rfl, rfl, rfl, rfl, rfl, rfl, rfl, rfl⟩
        case a2 => omega
        case a3 => have := HBX.out.size; simp; omega
        intro pn cn w3 ho3 hg3 ha3
        have HO3 := Lib.hid (show w3.ownsRow W2.heap.size KT 8 (.slice pn ((idxTo A.t i).length + 1) cn) (idxTo A.t (i + 1)).length (tkL (told A.t (tm T sl2) (i + 1)) (idxTo A.t (i + 1)).length) from by
          rw [HY.out, HYL.out]; exact ho3)
        have HB3 := Lib.hid (show Below W2.heap.size W2 w3 from (HBX.out.alloc HBX.out.size _).grown hg3 (by have := HBX.out.size; simp; omega) (fun g e => (HX.out.lt g e).1))
        clear ho3 hg3 ha3
        go_wp2_with fail
        go_roundw
        case rel => exact ⟨i + 1, _, rfl, by go_num, by omega, HO3, HB3⟩
        case measure => simp [intOf]; omega
    · obtain rfl : i = 16 := by omega
      have z1 : ¬ ((16 : Nat) : Int) < 16 := by omega
      have HF := Lib.hid (show ∃ sl', TasksX (fun x => x < w.heap.size) wr xv (idxTo A.t 16).length (tm (toldF A T) sl') from ⟨fun j => sl2 (A.idxs.getD j 0), by
        have e : tm (toldF A T) (fun j => sl2 (A.idxs.getD j 0)) = told A.t (tm T sl2) 16 := by
          funext j; unfold told toldF tm; rw [HE.out]
        rw [e]
        have hjx := fun j (hj : j < (idxTo A.t 16).length) => (HOI.out.j _ (idxTo_at hj).1).mono (Y := fun x => x < w.heap.size) (fun x _ k => .inl (by have := HS2.out; omega))
        exact ⟨own_tasks HX.out (by omega) fun j hj => (hjx j hj).1, fun a n c e _ k => by
          have h1 := (HX.out.lt a.block (by rw [e]; rfl)).1
          have h2 := HB2.out.size
          omega, fun j hj => hjx j hj⟩⟩)
      have HLS := Lib.hid (show Lst (fun x => x < w.heap.size) wr (.slice (some ⟨g1, 0, none⟩) 16 c1) (ints A.gens) ∧ Lst (fun x => x < w.heap.size) wr (.slice (some ⟨g2, 0, none⟩) 16 c2) (bools A.taken) from
        ⟨Lst.of_own HOI.out.g (by rw [ints_len, HLN.out.1]) (by omega) (fun x e _ k => by have := HS2.out; omega), Lst.of_own HOI.out.t (by rw [bools_len]; have := HLN.out; omega) (by omega) (fun x e _ k => by have := HS2.out; omega)⟩)
      go_wp2_with fail
      go_quiet (fail)
      go_wp2_with fail
      refine bodyPost_ret (v := .tuple #[.slice (some ⟨g1, 0, none⟩) 16 c1, .slice (some ⟨g2, 0, none⟩) 16 c2, xv, .int .i64 last]) (by simp [results, Tryz.results31, go_sem]) rfl ?_
      obtain ⟨sl', hF⟩ := HF.out
      have hbw := bnext HB2.out HBX.out
      unfold SaveR14
      rw [HE.out]
      exact ⟨_, _, _, sl', rfl, HLS.out.1.below (by first | exact below_drewN (Below.refl _ _) _ | exact below_drew (Below.refl _ _)), HLS.out.2.below (by first | exact below_drewN (Below.refl _ _) _ | exact below_drew (Below.refl _ _)), TasksX.below hF (by first | exact below_drewN (Below.refl _ _) _ | exact below_drew (Below.refl _ _)), (by first | exact below_drewN hbw _ | exact below_drew hbw)⟩
end Go.Proofs.YtedgchafligndaaGreat
/- The document's own pool: New; no condition but those that each row names. -/
namespace Go.Proofs.YtedgchafligndaaGreat
open Go.RowKit Tsk

theorem own_hasT {W : World} {B g : Nat} (h : Has W g (.cells (tkZ 16) KT)) (hb : B ≤ g) : W.ownsRow B KT 8 (.slice (some ⟨g, 0, none⟩) 16 16) 16 (tkL (fun _ => tk0) 16) := by
  refine ⟨by simp [tkL_len], .inr ⟨g, 16, _, rfl, hb, h, Nat.le_refl _, by unfold maxLen; omega, by simp [tkZ, tkL_len], ?_⟩⟩
  have hl : (tkL (fun _ => tk0) 16).length = 128 := by simp [tkL_len]
  unfold tkZ
  exact List.take_of_length_le (by rw [hl]; decide)
def gl14 (k : Nat) : List Int := List.replicate k 1 ++ List.replicate (16 - k) 0
theorem gl14_set : ∀ k, k < 16 → (gl14 k).set k 1 = gl14 (k + 1) := by decide
theorem gl14_at (k : Nat) : (gl14 k).length = k + (16 - k) := by unfold gl14; simp
/-- What New answers: a pool of one's own, all slots free. -/
def NewR14 (w : World) (e : Ending) (w' : World) : Prop := ∃ gs ts ks, e = .returned (pv gs ts ks (-1)) ∧ Own14 w.heap.size w' (Tab.new 3 16).gens (Tab.new 3 16).taken (fun _ => tk0) gs ts ks (fun _ => .slice none 0 0) ∧ Below w.heap.size w w'
/-- New behind its first statement. -/
def NewC14 (w : World) (b g1 g2 g3 : Nat) (wx : World) : Prop :=
  HasP wx b (.slice (some ⟨g1, 0, none⟩) 16 16) (.slice (some ⟨g2, 0, none⟩) 16 16) (.slice (some ⟨g3, 0, none⟩) 16 16) (-1) ∧ HasP wx w.heap.size (.slice none 0 0) (.slice none 0 0) (.slice none 0 0) 0 ∧ Has wx g1 (.cells (madeCells #[.int .i64 0] 16) 3) ∧ Has wx g2 (.cells (madeCells #[.bool false] 16) 4) ∧ Has wx g3 (.cells (tkZ 16) KT) ∧
    (g1 ≠ g2 ∧ g1 ≠ g3 ∧ g2 ≠ g3) ∧ (b ≠ g1 ∧ b ≠ g2 ∧ b ≠ g3) ∧ (w.heap.size + 1 ≤ b ∧ w.heap.size + 1 ≤ g1 ∧ w.heap.size + 1 ≤ g2 ∧ w.heap.size + 1 ≤ g3) ∧ Below w.heap.size w wx
theorem newC14 {w : World} {b g1 g2 g3 : Nat} {wx : World} (h1 : HasP wx b (.slice (some ⟨g1, 0, none⟩) 16 16) (.slice (some ⟨g2, 0, none⟩) 16 16) (.slice (some ⟨g3, 0, none⟩) 16 16) (-1)) (h2 : HasP wx w.heap.size (.slice none 0 0) (.slice none 0 0) (.slice none 0 0) 0) (h3 : Has wx g1 (.cells (madeCells #[.int .i64 0] 16) 3)) (h4 : Has wx g2 (.cells (madeCells #[.bool false] 16) 4)) (h5 : Has wx g3 (.cells (tkZ 16) KT))
    (n1 : g1 ≠ g2) (n2 : g1 ≠ g3) (n3 : g2 ≠ g3) (m1 : b ≠ g1) (m2 : b ≠ g2) (m3 : b ≠ g3) (l0 : w.heap.size + 1 ≤ b) (l1 : w.heap.size + 1 ≤ g1) (l2 : w.heap.size + 1 ≤ g2) (l3 : w.heap.size + 1 ≤ g3) (hb : Below w.heap.size w wx) : ∃ b' g1 g2 g3, (Value.pointer (some ⟨b, 0, none⟩)) = .pointer (some ⟨b', 0, none⟩) ∧ Hid (NewC14 w b' g1 g2 g3 wx) :=
  ⟨b, g1, g2, g3, rfl, Lib.hid ⟨h1, h2, h3, h4, h5, ⟨n1, n2, n3⟩, ⟨m1, m2, m3⟩, ⟨l0, l1, l2, l3⟩, hb⟩⟩
set_option maxHeartbeats 4000000 in
set_option maxRecDepth 100000 in
theorem rnew14 (w : World) :
    Calls Tryz.prog 14 #[] w (NewR14 w) := by
  have hmk1 : ∀ w, (Instr.makeSlice 22 (.int .i64 16) (.int .i64 16)).run Tryz.prog w = .ok (.slice (some ⟨w.heap.size, 0, none⟩) 16 16) (w.alloc (.cells (madeCells #[.int .i64 0] 16) 3)) := fun w => run_make_row' (P := Tryz.prog) 22 3 (.int .i64 0) 8 Tryz.underlying22 Tryz.info3 rfl .i64 .i64 16 (by omega) (by omega) w
  have hmk2 : ∀ w, (Instr.makeSlice 23 (.int .i64 16) (.int .i64 16)).run Tryz.prog w = .ok (.slice (some ⟨w.heap.size, 0, none⟩) 16 16) (w.alloc (.cells (madeCells #[.bool false] 16) 4)) := fun w => run_make_row' (P := Tryz.prog) 23 4 (.bool false) 1 Tryz.underlying23 Tryz.info4 rfl .i64 .i64 16 (by omega) (by omega) w
  have hmk3 : ∀ w, (Instr.makeSlice 24 (.int .i64 16) (.int .i64 16)).run Tryz.prog w = .ok (.slice (some ⟨w.heap.size, 0, none⟩) 16 16) (w.alloc (.cells (tkZ 16) KT)) := fun w => make_tasks 16 (by omega) w
  go_enter Tryz.func14, Tryz.ntmps14
  go_upto_region 1 with fail
  go_cut [1] (fun s1 wx => ∃ b g1 g2 g3, s1 = .pointer (some ⟨b, 0, none⟩) ∧ Hid (NewC14 w b g1 g2 g3 wx))
  case first =>
    go_region
    all_goals
      go_wp2_with fail
      go_meet
      refine' newC14 (has_drew ?_) (has_drew ?_) (has_drew ?_) (has_drew ?_) (has_drew ?_) ?_ ?_ ?_ ?_ ?_ ?_ ?_ ?_ ?_ ?_ (below_drew ?_)
      · repeat (first | exact has_new _ _ _ (by first | rfl | (simp; done)) | refine has_old ?_ _)
      · repeat (first | exact has_new _ _ _ (by first | rfl | (simp; done)) | refine has_old ?_ _)
      · repeat (first | exact has_new _ _ _ (by first | rfl | (simp; done)) | refine has_old ?_ _)
      · repeat (first | exact has_new _ _ _ (by first | rfl | (simp; done)) | refine has_old ?_ _)
      · repeat (first | exact has_new _ _ _ (by first | rfl | (simp; done)) | refine has_old ?_ _)
      any_goals omega
      exact (((((Below.refl _ _).alloc (Nat.le_refl _) _).alloc (by simp) _).alloc (by simp; omega) _).alloc (by simp; omega) _).alloc (by simp; omega) _
  case rest =>
    obtain ⟨b, g1, g2, g3, rfl, HNC⟩ := hcut
    obtain ⟨h1, h2, h3, h4, h5, ⟨n1, n2, n3⟩, ⟨m1, m2, m3⟩, ⟨l0, l1, l2, l3⟩, hb⟩ := HNC.out
    have HO := Lib.hid (show P14 (w.heap.size + 1) wc (gl14 0) (List.replicate 16 false) (fun _ => tk0) g1 16 g2 16 g3 16 (fun _ => .slice none 0 0) from
      ⟨own_has h3 l1 (by omega), own_has h4 l2 (by omega), own_hasT h5 l3, fun i hi => JobsX.nil _ _ _, fun e => n1 (Option.some.inj e), fun e => n2 (Option.some.inj e), fun e => n3 (Option.some.inj e)⟩)
    have HQ := Lib.hid h1
    have HZ := Lib.hid h2
    have HB := Lib.hid hb
    have HS := Lib.hid (show w.heap.size + 1 ≤ wc.heap.size from by have := has_lt h2; omega)
    have HN := Lib.hid (show ¬ b = g1 ∧ ¬ w.heap.size = g1 ∧ w.heap.size + 1 ≤ g1 from ⟨m1, by omega, l1⟩)
    have HM := Lib.hid m1
    clear h1 h2 h3 h4 h5 hb HNC
    go_wp2_with fail
    go_loopw [2] (fun iv wr => ∃ k : Nat, k ≤ 16 ∧ iv = .int .i64 k ∧ Hid (P14 (w.heap.size + 1) wr (gl14 k) (List.replicate 16 false) (fun _ => tk0) g1 16 g2 16 g3 16 (fun _ => .slice none 0 0)) ∧ Hid (Keeps (fun x => x = g1) wc wr)) (fun iv _ => 16 - (intOf iv).toNat)
    case atStart => exact ⟨0, Nat.zero_le _, rfl, HO, Lib.hid (Keeps.refl _ _)⟩
    case round =>
      obtain ⟨k, hk, rfl, HOK, HK⟩ := hrel
      have HQK := Lib.hid (show HasP wr b _ _ _ _ from has_keeps HQ.out HK.out HN.out.1)
      have HZK := Lib.hid (show HasP wr w.heap.size _ _ _ _ from has_keeps HZ.out HK.out HN.out.2.1)
      obtain ⟨a0, a1, a2, a3⟩ := HasP.cells HQK.out
      have z0 : (0 : Int) ≤ (k : Int) := by omega
      by_cases hk16 : k < 16
      · have z1 : (k : Int) < 16 := by omega
        have kc := World.ownsRow.cellAt HOK.out.g k (by omega)
        obtain ⟨kv, hkv⟩ : ∃ kv, (ints (gl14 k))[k]? = some kv := ⟨_, List.getElem?_eq_getElem (by rw [ints_len, gl14_at]; omega)⟩
        have kc' := kc.trans hkv
        have kf := fun j => World.ownsRow.frozenAt HOK.out.g j
        clear kc hkv
        have HST := Lib.hid (show P14 (w.heap.size + 1) (wr.setCell ⟨g1, k, none⟩ (.int .i64 1)) (gl14 (k + 1)) (List.replicate 16 false) (fun _ => tk0) g1 16 g2 16 g3 16 (fun _ => .slice none 0 0) from by rw [← gl14_set k hk16]; exact HOK.out.setG k 1)
        have HKT := Lib.hid (show Keeps (fun x => x = g1) wc (wr.setCell ⟨g1, k, none⟩ (.int .i64 1)) from HK.out.setS _ _ rfl)
        go_wp2_with fail
        go_roundw
        case rel => exact ⟨k + 1, by omega, by go_num, HST, HKT⟩
        case measure => simp [intOf]; omega
      · obtain rfl : k = 16 := by omega
        have z1 : ¬ ((16 : Nat) : Int) < 16 := by omega
        obtain ⟨y0, y1, y2, y3⟩ := HasP.cells HZK.out
        have fr := fun j => has_free HZK.out j
        go_wp2_with fail
        refine bodyPost_ret (v := pv (.slice (some ⟨g1, 0, none⟩) 16 16) (.slice (some ⟨g2, 0, none⟩) 16 16) (.slice (some ⟨g3, 0, none⟩) 16 16) (-1)) (by simp [results, Tryz.results14, go_sem, y0, y1, y2, y3]) rfl ?_
        have hbw : Below w.heap.size w wr := below_keeps HB.out HK.out (fun x e => by have := HN.out; omega)
        have o5 := HOK.out.away (keeps4p (R := fun x => x = w.heap.size) (Keeps.refl _ _) rfl (.slice (some ⟨g1, 0, none⟩) 16 16) (.slice (some ⟨g2, 0, none⟩) 16 16) (.slice (some ⟨g3, 0, none⟩) 16 16) (.int .i64 (-1))) (fun x e => by omega)
        exact ⟨_, _, _, rfl, o5.lower (by omega), below4p hbw (Nat.le_refl _) _ _ _ _⟩
end Go.Proofs.YtedgchafligndaaGreat
/- The document's own Slots: may slots be, and how many are taken; no condition but those that each row names. -/
namespace Go.Proofs.YtedgchafligndaaGreat
open Go.RowKit

set_option maxHeartbeats 1000000 in
theorem rslots_yes (S : Nat → Prop) (gens : List Int) (taken : List Bool) (v x : Value) (w : World) (h : Lst S w v (ints gens)) (g : Lst S w x (bools taken)) (hl : taken.length = gens.length) (ho : standB gens taken gens.length) :
    Calls Tryz.prog 25 #[v, x] w fun e w' => e = .returned (.tuple #[.int .i64 (rank taken gens.length : Nat), .int .i64 0]) ∧ w = w' := by
  obtain ⟨p, cp, rfl, hm, hg⟩ := h
  obtain ⟨q, cq, rfl, _, ht⟩ := g
  have e1 := ints_len gens
  have e2 := bools_len taken
  rw [e1] at hm ⊢
  rw [e2, hl]
  have HG := Lib.hid hg
  have HT := Lib.hid ht
  have HO := Lib.hid ho
  have HL := Lib.hid hl
  clear hg ht e1 e2 ho hl
  go_enter Tryz.func25, Tryz.ntmps25
  go_wp2_with fail
  go_loop [6, 7, 8] (fun n i _ => ∃ k : Nat, k ≤ gens.length ∧ i = .int .i64 k ∧ n = .int .i64 (rank taken k : Nat)) (fun _ i _ => gens.length - (intOf i).toNat)
  case atStart => exact ⟨0, Nat.zero_le _, rfl, rfl⟩
  case round =>
    obtain ⟨k, hk, rfl, rfl⟩ := hrel
    have hrk := rank_le taken k
    have HSS := Lib.hid (rank_succ taken k)
    generalize hrn : rank taken k = rn at *
    have HRN := Lib.hid hrn
    clear hrn
    by_cases hlt : k < gens.length
    · obtain ⟨b, off, rfl, _, hc⟩ := HG.out k _ (ints_at hlt)
      obtain ⟨b2, off2, rfl, _, hc2⟩ := HT.out k _ (bools_at (by rw [HL.out]; exact hlt))
      have hok := HO.out k hlt
      unfold okG at hok
      generalize gens.getD k 0 = z at *
      generalize taken.getD k false = t at *
      cases t with
      | true =>
        obtain ⟨h1, h2⟩ := hok
        rw [if_pos rfl] at h2
        go_wp2_with fail
        go_round
        case rel => exact ⟨k + 1, by omega, by go_num, by rw [HSS.out]; first | rfl | go_num⟩
        case measure => simp [intOf]; omega
      | false =>
        obtain ⟨h1, h2⟩ := hok
        rw [if_neg (by simp)] at h2
        go_wp2_with fail
        go_round
        case rel => exact ⟨k + 1, by omega, by go_num, by rw [HSS.out]; first | rfl | go_num⟩
        case measure => simp [intOf]; omega
    · have hk' : k = gens.length := by omega
      have HE := Lib.hid (show rank taken gens.length = rn by rw [← hk']; exact HRN.out)
      clear hk'
      go_wp2_with fail
      go_ret2
      exact ⟨ret_two (by rw [HE.out]) rfl, rfl⟩

set_option maxHeartbeats 1000000 in
theorem rslots_no (S : Nat → Prop) (gens : List Int) (taken : List Bool) (v x : Value) (w : World) (h : Lst S w v (ints gens)) (g : Lst S w x (bools taken)) (ho : ¬ (taken.length = gens.length ∧ standB gens taken gens.length)) :
    Calls Tryz.prog 25 #[v, x] w fun e w' => e = .returned (.tuple #[.int .i64 0, .int .i64 270]) ∧ w = w' := by
  obtain ⟨p, cp, rfl, hm, hg⟩ := h
  obtain ⟨q, cq, rfl, hm2, ht⟩ := g
  have e1 := ints_len gens
  have e2 := bools_len taken
  rw [e1] at hm ⊢
  rw [e2] at hm2 ⊢
  by_cases hl : taken.length = gens.length
  · rw [hl]
    have HG := Lib.hid hg
    have HT := Lib.hid ht
    have HO := Lib.hid (show ¬ standB gens taken gens.length from fun k => ho ⟨hl, k⟩)
    have HL := Lib.hid hl
    clear hg ht e1 e2 ho hl hm2
    go_enter Tryz.func25, Tryz.ntmps25
    go_wp2_with fail
    go_loop [6, 7, 8] (fun n i _ => ∃ k : Nat, k ≤ gens.length ∧ i = .int .i64 k ∧ Hid (standB gens taken k) ∧ ∃ m : Nat, m ≤ k ∧ n = .int .i64 m) (fun _ i _ => gens.length - (intOf i).toNat)
    case atStart => exact ⟨0, Nat.zero_le _, rfl, Lib.hid fun i hi => by omega, 0, Nat.le_refl _, rfl⟩
    case round =>
      obtain ⟨k, hk, rfl, HS, m, hm3, rfl⟩ := hrel
      by_cases hlt : k < gens.length
      · obtain ⟨b, off, rfl, _, hc⟩ := HG.out k _ (ints_at hlt)
        obtain ⟨b2, off2, rfl, _, hc2⟩ := HT.out k _ (bools_at (by rw [HL.out]; exact hlt))
        by_cases hok : okG gens taken k
        · have HS2 := Lib.hid (stand_succ HS.out hok)
          unfold okG at hok
          generalize gens.getD k 0 = z at *
          generalize taken.getD k false = t at *
          cases t with
          | true =>
            obtain ⟨h1, h2⟩ := hok
            rw [if_pos rfl] at h2
            go_wp2_with fail
            go_round
            case rel => exact ⟨k + 1, by omega, by go_num, HS2, by first | exact ⟨m, by omega, rfl⟩ | exact ⟨m + 1, by omega, by go_num⟩⟩
            case measure => simp [intOf]; omega
          | false =>
            obtain ⟨h1, h2⟩ := hok
            rw [if_neg (by simp)] at h2
            go_wp2_with fail
            go_round
            case rel => exact ⟨k + 1, by omega, by go_num, HS2, by first | exact ⟨m, by omega, rfl⟩ | exact ⟨m + 1, by omega, by go_num⟩⟩
            case measure => simp [intOf]; omega
        · unfold okG at hok
          generalize gens.getD k 0 = z at *
          generalize taken.getD k false = t at *
          by_cases hz : z < 1
          · clear hok
            cases t
            all_goals
              go_wp2_with fail
              go_ret2
              exact ⟨rfl, rfl⟩
          · cases t with
            | true =>
              have h2 : 1023 < z := by simp at hok; omega
              clear hok
              go_wp2_with fail
              go_ret2
              exact ⟨rfl, rfl⟩
            | false =>
              have h2 : 1024 < z := by simp at hok; omega
              clear hok
              go_wp2_with fail
              go_ret2
              exact ⟨rfl, rfl⟩
      · have hk' : k = gens.length := by omega
        exact absurd (hk' ▸ HS.out) HO.out
  · have hb1 : decide (taken.length = gens.length) = false := decide_eq_false hl
    clear ho
    go_enter Tryz.func25, Tryz.ntmps25
    go_wp2_with fail
    go_ret2
    exact ⟨rfl, rfl⟩
end Go.Proofs.YtedgchafligndaaGreat
/- The document's own pool: Load's refusals; no condition but those that each row names. -/
namespace Go.Proofs.YtedgchafligndaaGreat
open Go.RowKit Tsk

abbrev pZ : Value := pv (.slice none 0 0) (.slice none 0 0) (.slice none 0 0) 0
set_option maxHeartbeats 4000000 in
set_option maxRecDepth 100000 in
theorem rload14_no1 (gens : List Int) (taken : List Bool) (m : Nat) (TT : Nat → Tk) (last : Int) (v x y : Value) (w : World) (hv : Lst (fun _ => False) w v (ints gens)) (hx : Lst (fun _ => False) w x (bools taken)) (hy : Tasks w y m TT) (h : ¬ (gens.length = 16 ∧ -1 ≤ last ∧ last < 16)) :
    Calls Tryz.prog 7 #[v, x, y, .int .i64 last] w fun e w' => e = .returned (.tuple #[pZ, .int .i64 1]) ∧ Below w.heap.size w w' := by
  obtain ⟨p, cp, rfl, _, _⟩ := hv
  obtain ⟨p2, cp2, rfl, _, _⟩ := hx
  obtain ⟨p3, cp3, rfl, _, _⟩ := hy
  rw [ints_len]
  obtain ⟨WA, hWA⟩ : ∃ WA, WA = w.alloc (.cells #[.slice none 0 0, .slice none 0 0, .slice none 0 0, .int .i64 0] PT14) := ⟨_, rfl⟩
  have HB := Lib.hid (show Below w.heap.size w WA from by rw [hWA]; exact (Below.refl _ _).alloc (Nat.le_refl _) _)
  have HT := Lib.hid (show HasP WA w.heap.size (.slice none 0 0) (.slice none 0 0) (.slice none 0 0) 0 from by rw [hWA]; exact hasP_new _ _ _ _ _)
  have HW := Lib.hid hWA
  clear hWA
  obtain ⟨y0, y1, y2, y3⟩ := HasP.cells HT.out
  have fr := fun j => has_free HT.out j
  by_cases h16 : gens.length = 16
  · rw [h16]
    by_cases hlo : last < -1
    · clear h
      go_enter Tryz.func7, Tryz.ntmps7
      go_upto_region 1 with fail
      rw [← HW.out]
      go_wp2_with fail
      refine bodyPost_ret (v := .tuple #[pZ, .int .i64 1]) (by simp [results, Tryz.results7, go_sem, y0, y1, y2, y3]) rfl ⟨rfl, ?_⟩
      exact below4p HB.out (g := w.heap.size) (Nat.le_refl _) (.slice none 0 0) (.slice none 0 0) (.slice none 0 0) (.int .i64 0)
    · have hhi : 16 ≤ last := by omega
      clear h
      go_enter Tryz.func7, Tryz.ntmps7
      go_upto_region 1 with fail
      rw [← HW.out]
      go_wp2_with fail
      refine bodyPost_ret (v := .tuple #[pZ, .int .i64 1]) (by simp [results, Tryz.results7, go_sem, y0, y1, y2, y3]) rfl ⟨rfl, ?_⟩
      exact below4p HB.out (g := w.heap.size) (Nat.le_refl _) (.slice none 0 0) (.slice none 0 0) (.slice none 0 0) (.int .i64 0)
  · have hd : ((gens.length : Int) != 16) = true := by rw [bne_iff_ne]; omega
    have hd2 : ¬ gens.length = 16 := h16
    clear h h16
    go_enter Tryz.func7, Tryz.ntmps7
    go_upto_region 1 with fail
    rw [← HW.out]
    go_wp2_with fail
    refine bodyPost_ret (v := .tuple #[pZ, .int .i64 1]) (by simp [results, Tryz.results7, go_sem, y0, y1, y2, y3]) rfl ⟨rfl, ?_⟩
    exact below4p HB.out (g := w.heap.size) (Nat.le_refl _) (.slice none 0 0) (.slice none 0 0) (.slice none 0 0) (.int .i64 0)
set_option maxHeartbeats 4000000 in
set_option maxRecDepth 100000 in
theorem rload14_no2 (gens : List Int) (taken : List Bool) (m : Nat) (TT : Nat → Tk) (last : Int) (v x y : Value) (w : World) (hv : Lst (fun _ => False) w v (ints gens)) (hx : Lst (fun _ => False) w x (bools taken)) (hy : Tasks w y m TT) (h16 : gens.length = 16) (hl : -1 ≤ last ∧ last < 16) (h : ¬ ((taken.length = gens.length ∧ standB gens taken gens.length) ∧ m = rank taken taken.length)) :
    Calls Tryz.prog 7 #[v, x, y, .int .i64 last] w fun e w' => e = .returned (.tuple #[pZ, .int .i64 270]) ∧ Below w.heap.size w w' := by
  have HS1 := Lib.hid (fun W (hb : Below w.heap.size w W) (h1 : taken.length = gens.length) (h2 : standB gens taken gens.length) => rslots_yes (fun _ => False) gens taken v x W (hv.below hb) (hx.below hb) h1 h2)
  have HS2 := Lib.hid (fun W (hb : Below w.heap.size w W) ho => rslots_no (fun _ => False) gens taken v x W (hv.below hb) (hx.below hb) ho)
  obtain ⟨p, cp, rfl, _, _⟩ := hv
  obtain ⟨p2, cp2, rfl, _, _⟩ := hx
  obtain ⟨p3, cp3, rfl, _, _⟩ := hy
  rw [ints_len, bools_len] at HS1 HS2
  rw [ints_len, bools_len]
  rw [h16] at HS1 HS2 ⊢
  obtain ⟨WA, hWA⟩ : ∃ WA, WA = w.alloc (.cells #[.slice none 0 0, .slice none 0 0, .slice none 0 0, .int .i64 0] PT14) := ⟨_, rfl⟩
  have HB := Lib.hid (show Below w.heap.size w WA from by rw [hWA]; exact (Below.refl _ _).alloc (Nat.le_refl _) _)
  have HT := Lib.hid (show HasP WA w.heap.size (.slice none 0 0) (.slice none 0 0) (.slice none 0 0) 0 from by rw [hWA]; exact hasP_new _ _ _ _ _)
  have HW := Lib.hid hWA
  clear hWA
  obtain ⟨y0, y1, y2, y3⟩ := HasP.cells HT.out
  have fr := fun j => has_free HT.out j
  have l1 : ¬ last < -1 := by omega
  have l2 : ¬ 16 ≤ last := by omega
  by_cases hs : taken.length = 16 ∧ standB gens taken 16
  · have HS := Lib.hid (HS1.out WA HB.out hs.1 hs.2)
    have hm : ((rank taken 16 : Nat) : Int) ≠ (m : Int) := fun e => h ⟨by rw [h16]; exact hs, by rw [hs.1]; omega⟩
    have hd : (((rank taken 16 : Nat) : Int) != (m : Int)) = true := by rw [bne_iff_ne]; exact hm
    clear h hm hs
    generalize rank taken 16 = rk at *
    generalize taken.length = tl at *
    go_enter Tryz.func7, Tryz.ntmps7
    go_upto_region 1 with fail
    rw [← HW.out]
    go_wp2_with fail
    refine HS.out.mono ?_
    rintro e w1 ⟨rfl, rfl⟩
    go_wp2_with fail
    refine bodyPost_ret (v := .tuple #[pZ, .int .i64 270]) (by simp [results, Tryz.results7, go_sem, y0, y1, y2, y3]) rfl ⟨rfl, ?_⟩
    exact below4p HB.out (g := w.heap.size) (Nat.le_refl _) (.slice none 0 0) (.slice none 0 0) (.slice none 0 0) (.int .i64 0)
  · have HS := Lib.hid (HS2.out WA HB.out (fun c => hs c))
    clear h hs
    generalize taken.length = tl at *
    go_enter Tryz.func7, Tryz.ntmps7
    go_upto_region 1 with fail
    rw [← HW.out]
    go_wp2_with fail
    refine HS.out.mono ?_
    rintro e w1 ⟨rfl, rfl⟩
    go_wp2_with fail
    refine bodyPost_ret (v := .tuple #[pZ, .int .i64 270]) (by simp [results, Tryz.results7, go_sem, y0, y1, y2, y3]) rfl ⟨rfl, ?_⟩
    exact below4p HB.out (g := w.heap.size) (Nat.le_refl _) (.slice none 0 0) (.slice none 0 0) (.slice none 0 0) (.int .i64 0)
end Go.Proofs.YtedgchafligndaaGreat
/- The document's own pool: Load; no condition but those that each row names. -/
namespace Go.Proofs.YtedgchafligndaaGreat
open Go.RowKit Tsk

/-- What Load answers of slots that can be. -/
def LoadR14 (w : World) (ok : Prop) (gens : List Int) (taken : List Bool) (T : Nat → Tk) (last : Int) (e : Ending) (w' : World) : Prop :=
  (ok ∧ ∃ gs ts ks sl, e = .returned (.tuple #[pv gs ts ks last, .int .i64 0]) ∧ Own14 w.heap.size w' gens taken T gs ts ks sl ∧ Below w.heap.size w w') ∨ (¬ ok ∧ e = .returned (.tuple #[pZ, .int .i64 270]) ∧ Below w.heap.size w w')
def lastOk (gens : List Int) (taken : List Bool) (last : Int) : Prop := ¬ (0 ≤ last ∧ taken.getD last.toNat false = false ∧ gens.getD last.toNat 0 = 1)
theorem tasks_jobs {w : World} {v : Value} {m k : Nat} {T : Nat → Tk} (h : Tasks w v m T) (hk : k < m) : Jobs w (T k).s (T k).n (T k).f := by
  obtain ⟨_, _, _, _, hc⟩ := h
  obtain ⟨_, _, _, _, _, _, _, _, _, _, _, hj⟩ := hc k hk
  exact hj
theorem rank_up (taken : List Bool) (a : Nat) : ∀ d, rank taken a ≤ rank taken (a + d)
  | 0 => Nat.le_refl _
  | d + 1 => Nat.le_trans (rank_up taken a d) (by rw [show a + (d + 1) = (a + d) + 1 from rfl, rank_succ]; omega)
theorem rank_lt {taken : List Bool} {i n : Nat} (hi : i < n) (ht : taken.getD i false = true) : rank taken i < rank taken n := by
  have h1 := rank_up taken (i + 1) (n - (i + 1))
  rw [show i + 1 + (n - (i + 1)) = n by omega, rank_succ, if_pos ht] at h1
  exact h1
theorem part_set {α : Type} {l : List α} {z v : α} {i : Nat} (hl : l.length = 16) (hi : i < 16) (hv : l[i]? = some v) : (l.take i ++ List.replicate (16 - i) z).set i v = l.take (i + 1) ++ List.replicate (16 - (i + 1)) z := by
  rw [show 16 - i = (16 - (i + 1)) + 1 by omega, List.replicate_succ, List.set_append_right _ _ (by rw [List.length_take]; omega), List.length_take, show i - min i l.length = 0 by omega, List.set_cons_zero, List.take_add_one, hv]
  simp
set_option maxHeartbeats 4000000 in
set_option maxRecDepth 100000 in
theorem rload14_mid (gens : List Int) (taken : List Bool) (m : Nat) (TT : Nat → Tk) (last : Int) (v x y : Value) (w : World) (hv : Lst (fun _ => False) w v (ints gens)) (hx : Lst (fun _ => False) w x (bools taken)) (hy : Tasks w y m TT) (h16 : gens.length = 16) (hl : -1 ≤ last ∧ last < 16) (h : (taken.length = gens.length ∧ standB gens taken gens.length) ∧ m = rank taken taken.length) :
    Calls Tryz.prog 7 #[v, x, y, .int .i64 last] w (LoadR14 w ((∀ j, j < m → okTk (TT j)) ∧ lastOk gens taken last) gens taken (fillT taken TT 16) last) := by
  have hts : taken.length = 16 := by rw [h.1.1, h16]
  have HLT := Lib.hid (⟨h16, hts⟩ : _ ∧ _)
  have HRK := Lib.hid (show ∀ i, i < 16 → taken.getD i false = true → rank taken i < m from fun i hi hti => by
    rw [h.2, hts]
    exact rank_lt hi hti)
  have HSL := Lib.hid (fun W (hb : Below w.heap.size w W) => rslots_yes (fun _ => False) gens taken v x W (hv.below hb) (hx.below hb) h.1.1 h.1.2)
  have HM := Lib.hid (show m = rank taken 16 from by rw [h.2, hts])
  have HVA := Lib.hid (fun W (hb : Below w.heap.size w W) k (hk : k < m) => rvalid (TT k).p (TT k).s (TT k).n (TT k).f (TT k).k W (tasks_jobs (hy.below hb) hk))
  have HTW := Lib.hid (fun W (hb : Below w.heap.size w W) k (hk : k < m) (h8 : (TT k).n ≤ 8) => rtwin (TT k).p (TT k).s (TT k).n (TT k).f (TT k).k W (tasks_jobs (hy.below hb) hk) (by omega))
  have HV := Lib.hid hv
  have HXT := Lib.hid hx
  have HY := Lib.hid hy
  obtain ⟨p, cp, rfl, _, _⟩ := id hv
  obtain ⟨p2, cp2, rfl, _, _⟩ := id hx
  obtain ⟨p3, cp3, rfl, _, _⟩ := id hy
  rw [ints_len, bools_len, h16, hts] at HSL
  rw [ints_len, h16] at HV
  rw [bools_len, hts] at HXT
  rw [ints_len, bools_len, h16, hts]
  have hrk : rank taken 16 = m := by rw [h.2, hts]
  rw [hrk] at HSL
  clear hrk
  have HN := Lib.hid (fun W => rnew14 W)
  have l1 : ¬ last < -1 := by omega
  have l2 : ¬ 16 ≤ last := by omega
  obtain ⟨WA, hWA⟩ : ∃ WA, WA = w.alloc (.cells #[.slice none 0 0, .slice none 0 0, .slice none 0 0, .int .i64 0] PT14) := ⟨_, rfl⟩
  have HB := Lib.hid (show Below w.heap.size w WA ∧ w.heap.size + 1 ≤ WA.heap.size from by rw [hWA]; exact ⟨(Below.refl _ _).alloc (Nat.le_refl _) _, by simp⟩)
  have HT := Lib.hid (show HasP WA w.heap.size (.slice none 0 0) (.slice none 0 0) (.slice none 0 0) 0 from by rw [hWA]; exact hasP_new _ _ _ _ _)
  have HW := Lib.hid hWA
  clear hWA h16 hl h hts hv hx hy
  go_enter Tryz.func7, Tryz.ntmps7
  go_upto_region 1 with fail
  rw [← HW.out]
  go_wp2_with fail
  refine (HSL.out WA HB.out.1).mono ?_
  rintro e w1 ⟨rfl, rfl⟩
  go_wp2_with fail
  refine (HN.out WA).mono ?_
  rintro e w1 ⟨gs, ts, ks, rfl, ho, hb⟩
  obtain ⟨g1, c1, g2, c2, g3, c3, rfl, rfl, rfl, y1, y2, y3, n1, n2, n3⟩ := ho.blocks
  obtain ⟨W2, hW2⟩ : ∃ W2, W2 = w1.alloc (.cells #[.slice (some ⟨g1, 0, none⟩) 16 c1, .slice (some ⟨g2, 0, none⟩) 16 c2, .slice (some ⟨g3, 0, none⟩) 16 c3, .int .i64 (-1)] PT14) := ⟨_, rfl⟩
  have HQ2 := Lib.hid (show HasP W2 w1.heap.size (.slice (some ⟨g1, 0, none⟩) 16 c1) (.slice (some ⟨g2, 0, none⟩) 16 c2) (.slice (some ⟨g3, 0, none⟩) 16 c3) (-1) from by rw [hW2]; exact hasP_new _ _ _ _ _)
  have HW2 := Lib.hid (show Below w1.heap.size w1 W2 from by rw [hW2]; exact (Below.refl _ _).alloc (Nat.le_refl _) _)
  have HO2 := Lib.hid ((ho.under HW2.out).lower (B' := w.heap.size + 1) HB.out.2)
  have HZ2 := Lib.hid (HasP.below (HasP.below HT.out hb) HW2.out)
  have HB2 := Lib.hid (bnext (bnext HB.out.1 hb) HW2.out)
  have HNE := Lib.hid (show w1.heap.size ≠ g1 ∧ w1.heap.size ≠ g2 ∧ w1.heap.size ≠ g3 from ⟨by omega, by omega, by omega⟩)
  have HLO := Lib.hid (show w.heap.size + 1 ≤ g1 ∧ w.heap.size + 1 ≤ g2 ∧ w.heap.size + 1 ≤ g3 ∧ w.heap.size + 1 ≤ w1.heap.size from by have := HB.out.2; have := hb.size; exact ⟨by omega, by omega, by omega, by omega⟩)
  have HE2 := Lib.hid hW2
  clear hW2 ho hb y1 y2 y3
  go_upto_region 7 with fail
  rw [← HE2.out]
  clear HE2
  generalize w1.heap.size = qb at *
  obtain ⟨x0, x1, x2, x3⟩ := HasP.cells HQ2.out
  have fq := fun j => has_free HQ2.out j
  go_upto_region 8 with fail
  obtain ⟨W3, hW3⟩ : ∃ W3, W3 = W2.setCell ⟨qb, 3, none⟩ (.int .i64 last) := ⟨_, rfl⟩
  rw [← hW3]
  have HQ3 := Lib.hid (show HasP W3 qb (.slice (some ⟨g1, 0, none⟩) 16 c1) (.slice (some ⟨g2, 0, none⟩) 16 c2) (.slice (some ⟨g3, 0, none⟩) 16 c3) last from by rw [hW3]; exact HasP.set3 HQ2.out)
  have HO3 := Lib.hid (show P14 (w.heap.size + 1) W3 _ _ (fun _ => tk0) g1 c1 g2 c2 g3 c3 _ from by rw [hW3]; exact Own14.box HO2.out ((Keeps.refl _ W2).setS _ _ rfl) HNE.out (fun i _ => JobsX.nil _ _ _))
  have HZ3 := Lib.hid (show HasP W3 w.heap.size _ _ _ _ from by rw [hW3]; exact has_other HZ2.out _ _ (by show qb ≠ _; have := HLO.out; omega))
  have HB3 := Lib.hid (show Below w.heap.size w W3 from by rw [hW3]; exact below_low HB2.out _ _ (by show w.heap.size ≤ qb; have := HLO.out; omega))
  clear hW3 x0 x1 x2 x3 fq HQ2 HO2 HZ2 HB2 HW2
  go_wp2_with fail
  go_loopw [13, 14] (fun kv iv wr => ∃ (i : Nat) (sl : Nat → Value), iv = .int .i64 i ∧ kv = .int .i64 (rank taken i : Nat) ∧ i ≤ 16 ∧ Hid (∀ j, j < rank taken i → okTk (TT j)) ∧ Hid (HasP wr qb (.slice (some ⟨g1, 0, none⟩) 16 c1) (.slice (some ⟨g2, 0, none⟩) 16 c2) (.slice (some ⟨g3, 0, none⟩) 16 c3) last) ∧ Hid (HasP wr w.heap.size (.slice none 0 0) (.slice none 0 0) (.slice none 0 0) 0) ∧ Hid (P14 (w.heap.size + 1) wr (gens.take i ++ List.replicate (16 - i) 1) (taken.take i ++ List.replicate (16 - i) false) (fillT taken TT i) g1 c1 g2 c2 g3 c3 sl) ∧ Hid (Below w.heap.size w wr)) (fun _ iv _ => 16 - (intOf iv).toNat)
  case atStart => exact ⟨0, _, rfl, rfl, Nat.zero_le _, Lib.hid (fun j hj => absurd hj (Nat.not_lt_zero _)), HQ3, HZ3, Lib.hid (by rw [fillT_0]; exact HO3.out), HB3⟩
  case round =>
    obtain ⟨i, sl, rfl, rfl, hi, HOK, HQ, HZ, HO, HBX⟩ := hrel
    obtain ⟨x0, x1, x2, x3⟩ := HasP.cells HQ.out
    have z0 : (0 : Int) ≤ (i : Int) := by omega
    by_cases hi16 : i < 16
    · have z1 : (i : Int) < 16 := by omega
      obtain ⟨gv, hgv⟩ : ∃ gv, gens[i]? = some gv := ⟨_, List.getElem?_eq_getElem (by have := HLT.out; omega)⟩
      obtain ⟨bt, ot, e1, _, cg⟩ : ∃ bt ot, p = some ⟨bt, ot, none⟩ ∧ True ∧ wr.cell? ⟨bt, ot + i, none⟩ = some (.int .i64 gv) := by
        obtain ⟨_, _, e, _, hc⟩ := HV.out
        simp only [Value.slice.injEq] at e
        obtain ⟨b', off, e2, _, hcell⟩ := hc i (.int .i64 gv) (by unfold ints; rw [List.getElem?_map, hgv]; rfl)
        exact ⟨b', off, by rw [e.1]; exact e2, trivial, (HBX.out.cell (p := ⟨b', off + i, none⟩) (cell_lt hcell)).trans hcell⟩
      subst e1
      obtain ⟨bu, ou, e1, hbu, ct⟩ : ∃ bt ot, p2 = some ⟨bt, ot, none⟩ ∧ bt < w.heap.size ∧ wr.cell? ⟨bt, ot + i, none⟩ = some (.bool (taken.getD i false)) := by
        obtain ⟨_, _, e, _, hc⟩ := HXT.out
        simp only [Value.slice.injEq] at e
        obtain ⟨b', off, e2, _, hcell⟩ := hc i _ (bools_at (by have := HLT.out; omega))
        exact ⟨b', off, by rw [e.1]; exact e2, cell_lt hcell, (HBX.out.cell (p := ⟨b', off + i, none⟩) (cell_lt hcell)).trans hcell⟩
      subst e1
      obtain ⟨tv, htv⟩ : ∃ tv, taken[i]? = some tv := ⟨_, List.getElem?_eq_getElem (by have := HLT.out; omega)⟩
      have htd : taken.getD i false = tv := by rw [List.getD_eq_getElem?_getD, htv]; rfl
      rw [htd] at ct
      obtain ⟨v1, hv1⟩ : ∃ v1, wr.cell? ⟨g1, i, none⟩ = some v1 := ⟨_, (World.ownsRow.cellAt HO.out.g i (by omega)).trans (List.getElem?_eq_getElem (by rw [ints_len, List.length_append, List.length_take, List.length_replicate]; have := HLT.out; omega))⟩
      obtain ⟨v2, hv2⟩ : ∃ v2, wr.cell? ⟨g2, i, none⟩ = some v2 := ⟨_, (World.ownsRow.cellAt HO.out.t i (by omega)).trans (List.getElem?_eq_getElem (by rw [bools_len, List.length_append, List.length_take, List.length_replicate]; have := HLT.out; omega))⟩
      have f1 := fun j => World.ownsRow.frozenAt HO.out.g j
      have f2 := fun j => World.ownsRow.frozenAt HO.out.t j
      have m1 : ¬ g1 = qb := fun e => HNE.out.1 e.symm
      have m2 : ¬ g2 = qb := fun e => HNE.out.2.1 e.symm
      have m3 : ¬ g1 = bu := by have := HLO.out; omega
      have m4 : ¬ g2 = bu := by have := HLO.out; omega
      have n1' : ¬ g2 = g1 := fun e => n1 e.symm
      have HGV := Lib.hid hgv
      have HTV := Lib.hid htv
      have HTD := Lib.hid htd
      clear hgv htv htd
      have HQ1 := Lib.hid (show HasP (wr.setCell ⟨g1, i, none⟩ (.int .i64 gv)) qb (.slice (some ⟨g1, 0, none⟩) 16 c1) (.slice (some ⟨g2, 0, none⟩) 16 c2) (.slice (some ⟨g3, 0, none⟩) 16 c3) last from has_other HQ.out _ _ (by show g1 ≠ qb; exact m1))
      have HZ1 := Lib.hid (show HasP (wr.setCell ⟨g1, i, none⟩ (.int .i64 gv)) w.heap.size (.slice none 0 0) (.slice none 0 0) (.slice none 0 0) 0 from has_other HZ.out _ _ (by show g1 ≠ _; have := HLO.out; omega))
      have HO1 := Lib.hid (show P14 (w.heap.size + 1) (wr.setCell ⟨g1, i, none⟩ (.int .i64 gv)) (gens.take (i + 1) ++ List.replicate (16 - (i + 1)) 1) (taken.take i ++ List.replicate (16 - i) false) (fillT taken TT i) g1 c1 g2 c2 g3 c3 sl from by rw [← part_set HLT.out.1 hi16 HGV.out]; exact HO.out.setG i gv)
      have HB1 := Lib.hid (show Below w.heap.size w (wr.setCell ⟨g1, i, none⟩ (.int .i64 gv)) from below_low HBX.out _ _ (by show w.heap.size ≤ g1; have := HLO.out; omega))
      have hct1 : (wr.setCell ⟨g1, i, none⟩ (.int .i64 gv)).cell? ⟨bu, ou + i, none⟩ = some (.bool tv) ∧ (wr.setCell ⟨g1, i, none⟩ (.int .i64 gv)).cell? ⟨g2, i, none⟩ = some v2 := ⟨(World.cell?_setCell_far wr _ _ _ m3).trans ct, (World.cell?_setCell_far wr _ _ _ n1).trans hv2⟩
      have HCT1 := Lib.hid hct1
      clear hct1
      go_upto_region 12 with fail
      go_cut [14] (fun iv wx => iv = .int .i64 i ∧ Hid (HasP wx qb (.slice (some ⟨g1, 0, none⟩) 16 c1) (.slice (some ⟨g2, 0, none⟩) 16 c2) (.slice (some ⟨g3, 0, none⟩) 16 c3) last) ∧ Hid (HasP wx w.heap.size (.slice none 0 0) (.slice none 0 0) (.slice none 0 0) 0) ∧ Hid (P14 (w.heap.size + 1) wx (gens.take (i + 1) ++ List.replicate (16 - (i + 1)) 1) (taken.take i ++ List.replicate (16 - i) false) (fillT taken TT i) g1 c1 g2 c2 g3 c3 sl) ∧ Hid (Below w.heap.size w wx) ∧ wx.cell? ⟨bu, ou + i, none⟩ = some (.bool tv) ∧ wx.cell? ⟨g2, i, none⟩ = some v2)
      case first =>
        go_region
        all_goals
          go_wp2_with fail
          go_meet
          exact ⟨rfl, Lib.hid (has_drew HQ1.out), Lib.hid (has_drew HZ1.out), Lib.hid (HO1.out.under (below_drew (Below.refl _ _))), Lib.hid (below_drew HB1.out), HCT1.out.1, HCT1.out.2⟩
      case rest =>
        clear x0 x1 x2 x3 cg ct hv1 hv2 f1 f2 HQ1 HZ1 HO1 HB1 HCT1
        obtain ⟨rfl, HQ1, HZ1, HO1, HB1, ct, hv2⟩ := hcut
        obtain ⟨x0, x1, x2, x3⟩ := HasP.cells HQ1.out
        have f2 := fun j => World.ownsRow.frozenAt HO1.out.t j
        have HQ2 := Lib.hid (show HasP (wc.setCell ⟨g2, i, none⟩ (.bool tv)) qb (.slice (some ⟨g1, 0, none⟩) 16 c1) (.slice (some ⟨g2, 0, none⟩) 16 c2) (.slice (some ⟨g3, 0, none⟩) 16 c3) last from has_other HQ1.out _ _ (by show g2 ≠ qb; exact m2))
        have HZ2 := Lib.hid (show HasP (wc.setCell ⟨g2, i, none⟩ (.bool tv)) w.heap.size (.slice none 0 0) (.slice none 0 0) (.slice none 0 0) 0 from has_other HZ1.out _ _ (by show g2 ≠ _; have := HLO.out; omega))
        have HO2 := Lib.hid (show P14 (w.heap.size + 1) (wc.setCell ⟨g2, i, none⟩ (.bool tv)) (gens.take (i + 1) ++ List.replicate (16 - (i + 1)) 1) (taken.take (i + 1) ++ List.replicate (16 - (i + 1)) false) (fillT taken TT i) g1 c1 g2 c2 g3 c3 sl from by rw [← part_set HLT.out.2 hi16 HTV.out]; exact HO1.out.setT i tv)
        have HB2 := Lib.hid (show Below w.heap.size w (wc.setCell ⟨g2, i, none⟩ (.bool tv)) from below_low HB1.out _ _ (by show w.heap.size ≤ g2; have := HLO.out; omega))
        have HCT2 := Lib.hid ((World.cell?_setCell_far wc ⟨g2, i, none⟩ _ (.bool tv) m4).trans ct)
        go_upto_region 13 with fail
        go_cut [14] (fun iv wx => iv = .int .i64 i ∧ Hid (HasP wx qb (.slice (some ⟨g1, 0, none⟩) 16 c1) (.slice (some ⟨g2, 0, none⟩) 16 c2) (.slice (some ⟨g3, 0, none⟩) 16 c3) last) ∧ Hid (HasP wx w.heap.size (.slice none 0 0) (.slice none 0 0) (.slice none 0 0) 0) ∧ Hid (P14 (w.heap.size + 1) wx (gens.take (i + 1) ++ List.replicate (16 - (i + 1)) 1) (taken.take (i + 1) ++ List.replicate (16 - (i + 1)) false) (fillT taken TT i) g1 c1 g2 c2 g3 c3 sl) ∧ Hid (Below w.heap.size w wx) ∧ wx.cell? ⟨bu, ou + i, none⟩ = some (.bool tv))
        case first =>
          go_region
          all_goals
            go_wp2_with fail
            go_meet
            exact ⟨rfl, Lib.hid (has_drew HQ2.out), Lib.hid (has_drew HZ2.out), Lib.hid (HO2.out.under (below_drew (Below.refl _ _))), Lib.hid (below_drew HB2.out), HCT2.out⟩
        case rest =>
          clear x0 x1 x2 x3 ct hv2 f2 HQ1 HZ1 HO1 HB1 HQ2 HZ2 HO2 HB2 HCT2
          rename_i wb
          obtain ⟨rfl, HQ1, HZ1, HO1, HB1, ct⟩ := hcut
          cases tv with
          | false =>
            have HF := Lib.hid (fillT_no (TT := TT) HTD.out)
            have HRS := Lib.hid (show rank taken (i + 1) = rank taken i from by rw [rank_succ, if_neg (by rw [HTD.out]; simp)]; rfl)
            go_wp2_with fail
            go_roundw
            case rel => exact ⟨i + 1, sl, by go_num, by rw [HRS.out], by omega, Lib.hid (by rw [HRS.out]; exact HOK.out), HQ1, HZ1, Lib.hid (by rw [HF.out]; exact HO1.out), HB1⟩
            case measure => simp [intOf]; omega
          | true =>
            have hk := HRK.out i hi16 HTD.out
            have HK := Lib.hid hk
            have HF := Lib.hid (fillT_yes (TT := TT) HTD.out)
            have HRS := Lib.hid (show rank taken (i + 1) = rank taken i + 1 from by rw [rank_succ, if_pos HTD.out])
            obtain ⟨_, _, e, _, hc⟩ := HY.out.below HB1.out
            simp only [Value.slice.injEq] at e
            obtain ⟨bk, ok, e2, d0, d1, d2, d3, d4, d5, d6, d7, hJ⟩ := hc (rank taken i) hk
            have e3 : p3 = some ⟨bk, ok, none⟩ := by rw [e.1]; exact e2
            subst e3
            have HVL := Lib.hid (HVA.out wc HB1.out (rank taken i) hk)
            have HTL := Lib.hid (fun W hb h8 => HTW.out W hb (rank taken i) hk h8)
            have hr16 := rank_le taken i
            clear hc e e2
            generalize rank taken i = r at *
            obtain ⟨t, ht⟩ : ∃ t, t = TT r := ⟨_, rfl⟩
            have HTT := Lib.hid ht
            rw [← ht] at d0 d1 d2 d3 d4 d5 d6 d7 hJ HVL HTL
            obtain ⟨tp, tj, tn, tf, ⟨kg, ko, kn, kd, kc, kt⟩⟩ := t
            obtain ⟨s1, cs1, hs1, _⟩ := hJ
            dsimp only at hs1 d0 d1 d2 d3 d4 d5 d6 d7 HVL HTL
            subst hs1
            have y0 : (0 : Int) ≤ (r : Int) := by omega
            have y1 : (r : Int) < (m : Int) := by omega
            clear ht
            go_wp2_with fail
            refine HVL.out.mono ?_
            rintro e w5 ⟨rfl, hb5⟩
            have HB5 := Lib.hid (bnext HB1.out hb5)
            have HQ5 := Lib.hid (HasP.below HQ1.out hb5)
            have HZ5 := Lib.hid (HasP.below HZ1.out hb5)
            have HO5 := Lib.hid (HO1.out.under hb5)
            have hbk : bk < wc.heap.size := cell_lt d0
            have HD5 := Lib.hid (fun W (hb : Below w5.heap.size w5 W) => show _ ∧ _ ∧ _ ∧ _ ∧ _ ∧ _ ∧ _ ∧ _ from
              have k5 := fun o => (bnext hb5 hb).cell (p := ⟨bk, o, none⟩) hbk
              ⟨(k5 _).trans d0, (k5 _).trans d1, (k5 _).trans d2, (k5 _).trans d3, (k5 _).trans d4, (k5 _).trans d5, (k5 _).trans d6, (k5 _).trans d7⟩)
            clear d0 d1 d2 d3 d4 d5 d6 d7 hb5 ct
            by_cases hval : validE tp tn tf ⟨kg, ko, kn, kd, kc, kt⟩ = 0
            · have HOKR := Lib.hid (show okTk ⟨tp, .slice s1 tn cs1, tn, tf, ⟨kg, ko, kn, kd, kc, kt⟩⟩ from by
                apply Classical.byContradiction
                intro hc
                have h270 : validE tp tn tf ⟨kg, ko, kn, kd, kc, kt⟩ = 270 := if_neg hc
                omega)
              generalize validE tp tn tf ⟨kg, ko, kn, kd, kc, kt⟩ = E at *
              subst hval
              have HSZ := Lib.hid (show w.heap.size + 1 ≤ w5.heap.size ∧ g1 < w5.heap.size ∧ g2 < w5.heap.size ∧ g3 < w5.heap.size from ⟨by have := has_lt HZ5.out; omega, (World.ownsRow.lt HO5.out.g g1 rfl).2, (World.ownsRow.lt HO5.out.t g2 rfl).2, (World.ownsRow.lt HO5.out.k g3 rfl).2⟩)
              have hn8 : tn ≤ 8 := HOKR.out.2.1
              have HN8 := Lib.hid hn8
              have HCE := Lib.hid (fun W (hb : Below w5.heap.size w5 W) => show (_ ∧ _ ∧ _ ∧ _) ∧ (∀ r, r < 8 → W.cell? ⟨g3, i * 8 + r, none⟩ = some (prtT (tm (fillT taken TT i) sl i) r)) ∧ (∀ j, W.frozen? ⟨g3, j, none⟩ = false) from ⟨HasP.cells (HQ5.out.below hb), fun r hr => (World.ownsRow.cellAt (HO5.out.under hb).k (i * 8 + r) (by omega)).trans (tkL_at (tm (fillT taken TT i) sl) hi16 r hr), fun j => World.ownsRow.frozenAt (HO5.out.under hb).k j⟩)
              obtain ⟨⟨x0, x1, x2, x3⟩, _, _⟩ := HCE.out w5 (Below.refl _ _)
              obtain ⟨d0, d1, d2, d3, d4, d5, d6, d7⟩ := HD5.out w5 (Below.refl _ _)
              go_upto_region 17 with fail
              go_region_law (go_simp; go_at_call 5; refine (HTL.out _ (bnext HB5.out below_drewOne) HN8.out).mono ?_; rintro e wn ⟨xx, rfl, s2, c2', rfl, ho, hb⟩; have hq3 := bnext below_drewOne hb; obtain ⟨⟨x0, x1, x2, x3⟩, qq, f3⟩ := HCE.out wn hq3; have u0 := qq 0 (by omega); have u1 := qq 1 (by omega); have u2 := qq 2 (by omega); have u3 := qq 3 (by omega); have u4 := qq 4 (by omega); have u5 := qq 5 (by omega); have u6 := qq 6 (by omega); have u7 := qq 7 (by omega); rw [Nat.add_zero] at u0; have HQ3 := Lib.hid hq3; have HJN := Lib.hid (show JobsX (fun x => x < w.heap.size + 1 ∨ x = g1 ∨ x = g2 ∨ x = g3) wn _ _ _ from JobsX.own ho (by omega) (fun x hx => by have h1 := HSZ.out; have h2 := (below_drewOne (w := w5)).size; rcases hx with hx | hx | hx | hx <;> omega)); clear hb hq3 ho qq)
              all_goals
                generalize prtT (tm (fillT taken TT i) sl i) 0 = v0 at *
                generalize prtT (tm (fillT taken TT i) sl i) 1 = v1 at *
                generalize prtT (tm (fillT taken TT i) sl i) 2 = v2 at *
                generalize prtT (tm (fillT taken TT i) sl i) 3 = v3 at *
                generalize prtT (tm (fillT taken TT i) sl i) 4 = v4 at *
                generalize prtT (tm (fillT taken TT i) sl i) 5 = v5 at *
                generalize prtT (tm (fillT taken TT i) sl i) 6 = v6 at *
                generalize prtT (tm (fillT taken TT i) sl i) 7 = v7 at *
                go_wp2_with fail
                go_roundw
                case rel =>
                  have hKP := far_set8 (Keeps.refl (fun x => x = g3) wn) g3 i ⟨tp, .slice s2 tn c2', 0, fun _ => ⟨0, 0, 0, 0⟩, ⟨kg, ko, kn, kd, kc, kt⟩⟩ rfl
                  have hP := (HO5.out.under HQ3.out).setK i tp (.slice s2 tn c2') tn tf ⟨kg, ko, kn, kd, kc, kt⟩ (.slice s1 tn cs1) HJN.out
                  have hQ := has_keeps (HasP.below HQ5.out HQ3.out) hKP (fun e => HNE.out.2.2 e)
                  have hZ := has_keeps (HasP.below HZ5.out HQ3.out) hKP (fun e => by have := HLO.out; omega)
                  have hBB := below_keeps (bnext HB5.out HQ3.out) hKP (fun x e => by have := HLO.out; omega)
                  refine ⟨i + 1, upd sl i (.slice s2 tn c2'), by go_num, by rw [HRS.out]; go_num, by omega, Lib.hid (fun j hj => ?_), Lib.hid hQ, Lib.hid hZ, Lib.hid ?_, Lib.hid hBB⟩
                  · rw [HRS.out] at hj
                    by_cases e : j = r
                    · subst e; rw [← HTT.out]; exact HOKR.out
                    · exact HOK.out j (by omega)
                  · rw [HF.out, ← HTT.out]; exact hP
                case measure => simp [intOf]; omega
            · have g1' : (validE tp tn tf ⟨kg, ko, kn, kd, kc, kt⟩ != 0) = true := by simpa using hval
              have HVN := Lib.hid hval
              obtain ⟨y0', y1', y2', y3'⟩ := HasP.cells HZ5.out
              have fr2 := fun j => has_free HZ5.out j
              clear hval
              go_wp2_with fail
              refine bodyPost_ret (v := .tuple #[pZ, .int .i64 270]) (by simp [results, Tryz.results7, go_sem, y0', y1', y2', y3']) rfl ?_
              have hb6 := below4p HB5.out (g := w.heap.size) (Nat.le_refl _) (.slice none 0 0) (.slice none 0 0) (.slice none 0 0) (.int .i64 0)
              exact .inr ⟨fun hok => HVN.out (if_pos (by have := hok.1 r HK.out; rw [← HTT.out] at this; exact this)), rfl, hb6⟩
    · obtain rfl : i = 16 := by omega
      have z1 : ¬ ((16 : Nat) : Int) < 16 := by omega
      have HOF := Lib.hid (show P14 (w.heap.size + 1) wr gens taken (fillT taken TT 16) g1 c1 g2 c2 g3 c3 sl from by
        have h0 := HO.out
        rw [Nat.sub_self, List.replicate_zero, List.replicate_zero, List.append_nil, List.append_nil, List.take_of_length_le (by have := HLT.out; omega), List.take_of_length_le (by have := HLT.out; omega)] at h0
        exact h0)
      obtain ⟨y0, y1, y2, y3⟩ := HasP.cells HZ.out
      have fr := fun j => has_free HZ.out j
      by_cases hneg : last < 0
      · have g0 : decide (0 ≤ last) = false := decide_eq_false (by omega)
        have HLK := Lib.hid (show lastOk gens taken last from fun c => by omega)
        have g0' : ¬ 0 ≤ last := by omega
        go_wp2_with fail
        refine bodyPost_ret (v := .tuple #[pv (.slice (some ⟨g1, 0, none⟩) 16 c1) (.slice (some ⟨g2, 0, none⟩) 16 c2) (.slice (some ⟨g3, 0, none⟩) 16 c3) last, .int .i64 0]) (by simp [results, Tryz.results7, go_sem, y0, y1, y2, y3]) rfl ?_
        exact .inl ⟨⟨fun j hj => HOK.out j (by rw [← HM.out]; exact hj), HLK.out⟩, _, _, _, _, rfl, (HOF.out.away (keeps4p (R := fun x => x = w.heap.size) (Keeps.refl _ _) rfl (.slice (some ⟨g1, 0, none⟩) 16 c1) (.slice (some ⟨g2, 0, none⟩) 16 c2) (.slice (some ⟨g3, 0, none⟩) 16 c3) (.int .i64 last)) (fun x e => by omega)).lower (by omega), below4p HBX.out (Nat.le_refl _) _ _ _ _⟩
      · obtain ⟨n, hn⟩ : ∃ n : Nat, last = n := ⟨last.toNat, by omega⟩
        subst hn
        have hn16 : n < 16 := by omega
        have a0 : (0 : Int) ≤ (n : Int) := by omega
        have a1 : (n : Int) < 16 := by omega
        obtain ⟨gv, hgv⟩ : ∃ gv, gens[n]? = some gv := ⟨_, List.getElem?_eq_getElem (by have := HLT.out; omega)⟩
        obtain ⟨tv, htv⟩ : ∃ tv, taken[n]? = some tv := ⟨_, List.getElem?_eq_getElem (by have := HLT.out; omega)⟩
        obtain ⟨bt, ot, e1, cg⟩ : ∃ bt ot, p = some ⟨bt, ot, none⟩ ∧ wr.cell? ⟨bt, ot + n, none⟩ = some (.int .i64 gv) := by
          obtain ⟨_, _, e, _, hc⟩ := HV.out
          simp only [Value.slice.injEq] at e
          obtain ⟨b', off, e2, _, hcell⟩ := hc n (.int .i64 gv) (by unfold ints; rw [List.getElem?_map, hgv]; rfl)
          exact ⟨b', off, by rw [e.1]; exact e2, (HBX.out.cell (p := ⟨b', off + n, none⟩) (cell_lt hcell)).trans hcell⟩
        subst e1
        obtain ⟨bu, ou, e1, ct⟩ : ∃ bt ot, p2 = some ⟨bt, ot, none⟩ ∧ wr.cell? ⟨bt, ot + n, none⟩ = some (.bool tv) := by
          obtain ⟨_, _, e, _, hc⟩ := HXT.out
          simp only [Value.slice.injEq] at e
          obtain ⟨b', off, e2, _, hcell⟩ := hc n (.bool tv) (by unfold bools; rw [List.getElem?_map, htv]; rfl)
          exact ⟨b', off, by rw [e.1]; exact e2, (HBX.out.cell (p := ⟨b', off + n, none⟩) (cell_lt hcell)).trans hcell⟩
        subst e1
        have hlk : lastOk gens taken n ↔ ¬ (tv = false ∧ gv = 1) := by
          unfold lastOk
          rw [Int.toNat_natCast, List.getD_eq_getElem?_getD, List.getD_eq_getElem?_getD, htv, hgv]
          exact ⟨fun c d => c ⟨a0, d.1, d.2⟩, fun c d => c ⟨d.2.1, d.2.2⟩⟩
        clear hgv htv hneg hn16
        cases tv with
        | true =>
          have HLK := Lib.hid (show lastOk gens taken n from hlk.2 (fun c => by simp at c))
          clear hlk
          go_wp2_with fail
          refine bodyPost_ret (v := .tuple #[pv (.slice (some ⟨g1, 0, none⟩) 16 c1) (.slice (some ⟨g2, 0, none⟩) 16 c2) (.slice (some ⟨g3, 0, none⟩) 16 c3) n, .int .i64 0]) (by simp [results, Tryz.results7, go_sem, y0, y1, y2, y3]) rfl ?_
          exact .inl ⟨⟨fun j hj => HOK.out j (by rw [← HM.out]; exact hj), HLK.out⟩, _, _, _, _, rfl, (HOF.out.away (keeps4p (R := fun x => x = w.heap.size) (Keeps.refl _ _) rfl (.slice (some ⟨g1, 0, none⟩) 16 c1) (.slice (some ⟨g2, 0, none⟩) 16 c2) (.slice (some ⟨g3, 0, none⟩) 16 c3) (.int .i64 n)) (fun x e => by omega)).lower (by omega), below4p HBX.out (Nat.le_refl _) _ _ _ _⟩
        | false =>
          by_cases hg1 : gv = 1
          · have HLK := Lib.hid (show ¬ lastOk gens taken n from fun c => hlk.1 c ⟨rfl, hg1⟩)
            subst hg1
            clear hlk
            go_wp2_with fail
            refine bodyPost_ret (v := .tuple #[pZ, .int .i64 270]) (by simp [results, Tryz.results7, go_sem, y0, y1, y2, y3]) rfl ?_
            exact .inr ⟨fun hok => HLK.out hok.2, rfl, below4p HBX.out (g := w.heap.size) (Nat.le_refl _) (.slice none 0 0) (.slice none 0 0) (.slice none 0 0) (.int .i64 0)⟩
          · have HLK := Lib.hid (show lastOk gens taken n from hlk.2 (fun c => hg1 c.2))
            have hb1 : (gv == 1) = false := by simpa using hg1
            clear hlk
            go_wp2_with fail
            refine bodyPost_ret (v := .tuple #[pv (.slice (some ⟨g1, 0, none⟩) 16 c1) (.slice (some ⟨g2, 0, none⟩) 16 c2) (.slice (some ⟨g3, 0, none⟩) 16 c3) n, .int .i64 0]) (by simp [results, Tryz.results7, go_sem, y0, y1, y2, y3]) rfl ?_
            exact .inl ⟨⟨fun j hj => HOK.out j (by rw [← HM.out]; exact hj), HLK.out⟩, _, _, _, _, rfl, (HOF.out.away (keeps4p (R := fun x => x = w.heap.size) (Keeps.refl _ _) rfl (.slice (some ⟨g1, 0, none⟩) 16 c1) (.slice (some ⟨g2, 0, none⟩) 16 c2) (.slice (some ⟨g3, 0, none⟩) 16 c3) (.int .i64 n)) (fun x e => by omega)).lower (by omega), below4p HBX.out (Nat.le_refl _) _ _ _ _⟩
/-- Load of anything that reads as slots and tasks. -/
theorem rload14 (gens : List Int) (taken : List Bool) (m : Nat) (TT : Nat → Tk) (last : Int) (v x y : Value) (w : World) (hv : Lst (fun _ => False) w v (ints gens)) (hx : Lst (fun _ => False) w x (bools taken)) (hy : Tasks w y m TT) :
    Calls Tryz.prog 7 #[v, x, y, .int .i64 last] w fun e w' =>
      (¬ (gens.length = 16 ∧ -1 ≤ last ∧ last < 16) ∧ e = .returned (.tuple #[pZ, .int .i64 1]) ∧ Below w.heap.size w w') ∨
      ((gens.length = 16 ∧ -1 ≤ last ∧ last < 16) ∧ LoadR14 w (((taken.length = gens.length ∧ standB gens taken gens.length) ∧ m = rank taken taken.length) ∧ (∀ j, j < m → okTk (TT j)) ∧ lastOk gens taken last) gens taken (fillT taken TT 16) last e w') := by
  by_cases h : gens.length = 16 ∧ -1 ≤ last ∧ last < 16
  · by_cases hs : (taken.length = gens.length ∧ standB gens taken gens.length) ∧ m = rank taken taken.length
    · refine (rload14_mid gens taken m TT last v x y w hv hx hy h.1 h.2 hs).mono fun e w' hh => .inr ⟨h, ?_⟩
      rcases hh with ⟨h1, h2⟩ | ⟨h1, h2⟩
      · exact .inl ⟨⟨hs, h1⟩, h2⟩
      · exact .inr ⟨fun k => h1 k.2, h2⟩
    · exact (rload14_no2 gens taken m TT last v x y w hv hx hy h.1 h.2 hs).mono fun e w' hh => .inr ⟨h, .inr ⟨fun k => hs k.1, hh⟩⟩
  · exact (rload14_no1 gens taken m TT last v x y w hv hx hy h).mono fun e w' hh => .inl ⟨h, hh⟩
end Go.Proofs.YtedgchafligndaaGreat
/- The program's pool: Load, Twin; no condition but those that each row names. -/
namespace Go.Proofs.YtedgchafligndaaGreat
open Go.RowKit Tsk

theorem ok16_load {gens : List Int} {taken : List Bool} {L : List Int} (h8 : gens.length = 16) (hl : taken.length = gens.length) (ho : standB gens taken gens.length) (hL : L.length = 16) : (loadTo 3 gens taken L).Good := by
  have h := load_good (kind := 3) (gens := gens) (taken := taken) (things := []) (by omega) (by omega) (by omega) (by omega) hl ho
  exact ⟨h.k1, h.k3, h.n1, h.n4, h.lt, by show L.length = gens.length; omega, h.g1, h.gt⟩
/-- What Load answers of what may be. -/
def LoadPl (w : World) (A : Tab) (T : Nat → Tk) (la : Int) (e : Ending) (w' : World) : Prop :=
  ∃ S v, e = .returned (.tuple #[v, .nilIface]) ∧ (∀ X : Nat → Prop, (∀ x, X x → x < w.heap.size) → Pl S (fun x => X x ∨ S x) w.heap.size w' A T la v) ∧ Below w.heap.size w w'
theorem LoadI.finP {w wr : World} {A : Tab} {T : Nat → Tk} {ST : Nat → Prop} {tv : Value} {m : Nat} (h : LoadI w A T ST tv m wr) (hr : ∀ i, A.t i = true → rank A.taken i < m) (la : Int) : LoadPl w A T la (.returned (.tuple #[.pointer (some ⟨wr.heap.size, 0, none⟩), .nilIface])) (wr.alloc (.cells #[tv, .int .i64 la] 72)) := by
  obtain ⟨sl, h1, h2, h3⟩ := h
  have hb : Below wr.heap.size wr (wr.alloc (.cells #[tv, .int .i64 la] 72)) := (Below.refl _ _).alloc (Nat.le_refl _) _
  refine ⟨fun x => x = wr.heap.size ∨ ST x, _, rfl, fun X hX => Pl.of (sl := sl) (ST := ST) (tv := tv) rfl (by simp) ⟨by simp, fun o => by simp⟩ (h1.below hb) ⟨h3.size, fun k => by have := (h1.lt _ k).2; omega⟩ rfl (fun i => ?_), h3.alloc h3.size _⟩
  refine ((h2 i).mono fun x hx hy => ?_).below hb
  rcases hy with hy | hy | hy
  · refine .inr ⟨hX x hy, ?_⟩
    cases hti : A.t i with
    | false => exact .inl rfl
    | true => exact .inr (hr i hti)
  · omega
  · exact .inl hy
def LoadAnyP (w : World) (ok : Prop) (A : Tab) (T : Nat → Tk) (la : Int) (e : Ending) (w' : World) : Prop := (ok ∧ LoadPl w A T la e w') ∨ (¬ ok ∧ e = .returned (.tuple #[.pointer none, errV 270]) ∧ Below w.heap.size w w')
set_option maxHeartbeats 4000000 in
set_option maxRecDepth 100000 in
theorem plload_mid (gens : List Int) (taken : List Bool) (m : Nat) (TT : Nat → Tk) (L : List Int) (la : Int) (v x y : Value) (w : World) (hv : Lst (fun _ => False) w v (ints gens)) (hx : Lst (fun _ => False) w x (bools taken)) (hy : Tasks w y m TT) (hok : ∀ j, j < m → (TT j).k.c ≤ 9223372036854775807 ∧ (TT j).n * 32 ≤ 140737488355328) (h8 : gens.length = 16) (hL : L.length = 16) (hla : -1 ≤ la ∧ la < 16) (h : (taken.length = gens.length ∧ standB gens taken gens.length) ∧ m = rank taken taken.length) :
    Calls Tryz.prog 6 #[v, x, y, .int .i64 la] w (LoadAnyP w ((∀ j, j < m → okTk (TT j)) ∧ lastOk gens taken la) (loadTo 3 gens taken L) (fillT taken TT 16) la) := by
  have HK := Lib.hid (kload_ok (fun _ => False) 3 gens taken m TT L v x y w hv hx hy (by omega) (by omega) (by omega) (by omega) h.1.1 h.1.2 h.2)
  have HA := Lib.hid (ok16_load h8 h.1.1 h.1.2 hL)
  have hri : (loadTo 3 gens taken L).idxs.length = m := by rw [idxs_count, h.2, h.1.1]
  have HRI := Lib.hid hri
  have HRK := Lib.hid (show ∀ i, (loadTo 3 gens taken L).t i = true → rank taken i < m from fun i hi => by
    have h1 := idxs_rank (loadTo 3 gens taken L) (t_len2 HA.out hi) hi
    have h2 := (List.getElem?_eq_some_iff.1 h1).1
    rw [hri] at h2
    exact h2)
  have HFT := Lib.hid (show ∀ k, k < m → fillT taken TT 16 ((loadTo 3 gens taken L).idxs.getD k 0) = TT k from fun k hk => by
    have hk' : k < (loadTo 3 gens taken L).idxs.length := by rw [hri]; exact hk
    obtain ⟨h1, h2⟩ := idxs_at hk'
    have h3 := rank_idxs hk'
    unfold fillT
    rw [if_pos ⟨by have e8 : (loadTo 3 gens taken L).gens.length = 16 := h8; omega, h2⟩]
    exact congrArg TT h3)
  have HY := Lib.hid hy
  have HOK := Lib.hid hok
  obtain ⟨p, cp, rfl, _, _⟩ := id hv
  obtain ⟨p2, cp2, rfl, hm63, _⟩ := hy
  rw [ints_len] at HK hv ⊢
  rw [h8] at HK hv ⊢
  generalize hAA : loadTo 3 gens taken L = A at *
  have hAt : A.taken = taken := by rw [← hAA]
  have HAT := Lib.hid hAt
  have hts : taken.length = 16 := by rw [h.1.1, h8]
  obtain ⟨px, cpx, rfl, _, hxc⟩ := id hx
  rw [bools_len, hts] at HK hx ⊢
  have HXC := Lib.hid hxc
  have HX0 := Lib.hid hx
  have HTL := Lib.hid (show taken.length = 16 from by rw [h.1.1, h8])
  have HGL := Lib.hid h8
  have HV := Lib.hid hv
  have HLA := Lib.hid hla
  clear hAA hAt h8 h hx hok hri hv hts hxc
  go_enter Tryz.func6, Tryz.ntmps6
  go_wp2_with fail
  refine HK.out.mono ?_
  rintro e w1 ⟨ST, tv, rfl, hpt, hb1⟩
  have HI1 := Lib.hid (LoadI.start HAT.out hpt hb1 HY.out HRK.out)
  have HALL := Lib.hid (kall ST ST w.heap.size A HA.out _ w1 tv hpt (fun x hx => (hpt.lt x hx).2))
  obtain ⟨b, g1, c1, g2, c2, g3, c3, rfl, _⟩ := hpt
  clear hb1
  go_upto_region 6 with fail
  go_cut [51] (fun cv wx => wx = w1 ∧ ∃ D : Bool, cv = .bool D ∧ Hid (D = true ↔ ¬ lastOk gens taken la))
  case first =>
    by_cases hl1 : la = -1
    · subst hl1
      go_wp2_with fail
      go_meet
      exact ⟨rfl, false, rfl, Lib.hid ⟨fun h => (by cases h), fun h => absurd (fun hh => absurd hh.1 (by decide)) h⟩⟩
    · obtain ⟨i, hi⟩ := Int.eq_ofNat_of_zero_le (show 0 ≤ la by have := HLA.out; omega)
      subst hi
      have hi16 : i < 16 := by have := HLA.out; omega
      obtain ⟨bx, ox, epx, _, cx0⟩ := HXC.out i (.bool (taken.getD i false)) (bools_at (by have := HTL.out; omega))
      obtain ⟨_, _, ev, _, cv0⟩ := HV.out
      simp only [Value.slice.injEq] at ev
      obtain ⟨bg, og, epg, _, cg0⟩ := cv0 i (.int .i64 (gens.getD i 0)) (ints_at (by have := HGL.out; omega))
      rw [← ev.1] at epg
      subst epx epg
      have hbw := HI1.out.bel
      have cx := (hbw.cell (p := ⟨bx, ox + i, none⟩) (cell_lt cx0)).trans cx0
      have cg := (hbw.cell (p := ⟨bg, og + i, none⟩) (cell_lt cg0)).trans cg0
      have hne : ((i : Int) != -1) = true := by rw [bne_iff_ne]; omega
      have z0 : (0 : Int) ≤ (i : Int) := by omega
      have z1 : (i : Int) < 16 := by omega
      have HLO := Lib.hid (show lastOk gens taken (i : Int) ↔ ¬ (taken.getD i false = false ∧ gens.getD i 0 = 1) from by
        unfold lastOk
        rw [Int.toNat_natCast]
        exact ⟨fun h hh => h ⟨by omega, hh.1, hh.2⟩, fun h hh => h ⟨hh.2.1, hh.2.2⟩⟩)
      clear cx0 cg0 cv0 ev hbw hl1
      cases htk : taken.getD i false with
      | true =>
        rw [htk] at cx
        have HTK := Lib.hid htk
        clear htk
        go_wp2_with fail
        go_meet
        exact ⟨rfl, false, rfl, Lib.hid ⟨fun h => (by cases h), fun h => absurd (HLO.out.2 (fun hh => by rw [HTK.out] at hh; cases hh.1)) h⟩⟩
      | false =>
        rw [htk] at cx
        have HTK := Lib.hid htk
        clear htk
        by_cases h1 : gens.getD i 0 = 1
        · rw [h1] at cg
          have HH1 := Lib.hid h1
          clear h1
          go_wp2_with fail
          go_meet
          exact ⟨rfl, true, rfl, Lib.hid ⟨fun _ h => HLO.out.1 h ⟨HTK.out, HH1.out⟩, fun _ => rfl⟩⟩
        · have hq : ((gens.getD i 0 : Int) == 1) = false := by rw [beq_eq_false_iff_ne]; exact h1
          have HH1 := Lib.hid h1
          clear h1
          generalize gens.getD i 0 = gi at *
          go_wp2_with fail
          go_meet
          exact ⟨rfl, false, rfl, Lib.hid ⟨fun h => (by cases h), fun h => absurd (HLO.out.2 (fun hh => HH1.out hh.2)) h⟩⟩
  case rest =>
  obtain ⟨rfl, D, rfl, HD⟩ := hcut
  cases D with
  | true =>
    have HNL := Lib.hid (HD.out.1 rfl)
    have HBL := Lib.hid HI1.out.bel
    go_wp2_with fail
    go_ret2
    exact .inr ⟨fun h => HNL.out h.2, rfl, HBL.out⟩
  | false =>
  have HLK := Lib.hid (show lastOk gens taken la from Classical.byContradiction fun h => by have := HD.out.2 h; cases this)
  go_wp2_with fail
  refine HALL.out.mono ?_
  rintro e w2 ⟨r, rfl, hl, hb2⟩
  obtain ⟨pa, ca, rfl, _, hal⟩ := hl
  have el : (ints A.all).length = m := by rw [ints_len, all_len]; exact HRI.out
  rw [el]
  have HH := Lib.hid (show ∀ j, j < m → ∃ ba oa, pa = some ⟨ba, oa, none⟩ ∧ ¬ ST ba ∧ w2.cell? ⟨ba, oa + j, none⟩ = some (.int .i64 (A.hd (A.idxs.getD j 0))) from fun j hj => by
    obtain ⟨ba, oa, e, hn, hca⟩ := hal j _ (all_at (by rw [HRI.out]; exact hj))
    exact ⟨ba, oa, e, hn, hca⟩)
  have HI2 := Lib.hid (HI1.out.under hb2)
  have HB2 := Lib.hid (Below.refl w2.heap.size w2)
  have HBB := Lib.hid hb2
  clear hal el hb2
  go_wp2_with fail
  go_loopw [56] (fun iv wr => ∃ k : Nat, iv = .int .i64 k ∧ k ≤ m ∧ Hid (∀ j, j < k → okTk (TT j)) ∧ Hid (LoadI w A (fillT taken TT 16) ST (.pointer (some ⟨b, 0, none⟩)) k wr) ∧ Hid (Keeps ST w2 wr)) (fun iv _ => m - (intOf iv).toNat)
  case atStart => exact ⟨0, rfl, Nat.zero_le _, Lib.hid (fun j hj => absurd hj (Nat.not_lt_zero _)), HI2, Lib.hid (Keeps.refl _ _)⟩
  case round =>
    obtain ⟨k, rfl, hk, HOKS, HI, HKP⟩ := hrel
    by_cases hkm : k < m
    · have hkm' : (k : Int) < (m : Int) := by omega
      have z0 : (0 : Int) ≤ (k : Int) := by omega
      obtain ⟨sl, hpk, hjx, hbr⟩ := HI.out
      have HPK := Lib.hid hpk
      have HJX := Lib.hid hjx
      have HBR := Lib.hid hbr
      have HSTL := Lib.hid (fun x hx => (hpk.lt x hx).2)
      obtain ⟨_, _, e, _, hc⟩ := HY.out.below hbr
      simp only [Value.slice.injEq] at e
      obtain ⟨b3, o3, e3, d0, d1, d2, d3, d4, d5, d6, d7, hJ⟩ := hc k hkm
      have e4 : p2 = some ⟨b3, o3, none⟩ := by rw [e.1]; exact e3
      subst e4
      obtain ⟨ba, oa, rfl, hnS, hca⟩ := HH.out k hkm
      have hcb := (HKP.out.cell (p := ⟨ba, oa + k, none⟩) (cell_lt hca) hnS).trans hca
      obtain ⟨hq1, hq2⟩ := idxs_at (A := A) (j := k) (by rw [HRI.out]; exact hkm)
      have HFQ := Lib.hid (find_hd HA.out hq1 hq2)
      have HFK := Lib.hid (HFT.out k hkm)
      obtain ⟨hkc, hkn⟩ := HOK.out k hkm
      obtain ⟨t, hti⟩ : ∃ t, t = TT k := ⟨_, rfl⟩
      have HTI := Lib.hid hti
      rw [← hti] at d0 d1 d2 d3 d4 d5 d6 d7 hJ hkc hkn HFK
      clear e e3 hc hti hca hnS hq1 hq2 hjx
      obtain ⟨q0, cp0, hs0, _⟩ := id hJ
      obtain ⟨tp, ts, tn, tf, ⟨kg, ko, kn, kd, kc, kt⟩⟩ := t
      dsimp only at d0 d1 d2 d3 d4 d5 d6 d7 hJ hkc hkn HFK hs0
      subst hs0
      have HJ := Lib.hid hJ
      have HV := Lib.hid (pvalid tp (.slice q0 tn cp0) tn tf ⟨kg, ko, kn, kd, kc, kt⟩ wr hJ hkc)
      have HTW := Lib.hid (fun W (hb : Below wr.heap.size wr W) => jtwin tp (.slice q0 tn cp0) tn tf ⟨kg, ko, kn, kd, kc, kt⟩ W (hJ.below hb) hkn)
      have HST := Lib.hid (fun W (hb : Below wr.heap.size wr W) p' q n c f kk => kset_some ST w.heap.size A HA.out (tm (fillT taken TT 16) sl) W _ (HPK.out.below hb) (A.hd (A.idxs.getD k 0)) p' q n c f kk (A.idxs.getD k 0) HFQ.out)
      have hn63 : tn ≤ 9223372036854775807 := by omega
      have HN63 := Lib.hid hn63
      have hbl3 : b3 < wr.heap.size := cell_lt d0
      have HX := Lib.hid (fun W (hb : Below wr.heap.size wr W) => (show _ ∧ _ ∧ _ ∧ _ ∧ _ ∧ _ ∧ _ ∧ _ from ⟨(hb.cell (p := ⟨b3, o3 + k * 8, none⟩) hbl3).trans d0, (hb.cell (p := ⟨b3, o3 + k * 8 + 1, none⟩) hbl3).trans d1, (hb.cell (p := ⟨b3, o3 + k * 8 + 2, none⟩) hbl3).trans d2, (hb.cell (p := ⟨b3, o3 + k * 8 + 3, none⟩) hbl3).trans d3, (hb.cell (p := ⟨b3, o3 + k * 8 + 4, none⟩) hbl3).trans d4, (hb.cell (p := ⟨b3, o3 + k * 8 + 5, none⟩) hbl3).trans d5, (hb.cell (p := ⟨b3, o3 + k * 8 + 6, none⟩) hbl3).trans d6, (hb.cell (p := ⟨b3, o3 + k * 8 + 7, none⟩) hbl3).trans d7⟩))
      generalize A.hd (A.idxs.getD k 0) = hx at *
      clear hpk hbr hJ hkc hkn hn63
      by_cases hv : okT tp tn tf ⟨kg, ko, kn, kd, kc, kt⟩
      · have HOV := Lib.hid (show okTk (TT k) from by rw [← HTI.out]; exact hv)
        rw [show validE tp tn tf ⟨kg, ko, kn, kd, kc, kt⟩ = 0 from if_pos hv, errV_0] at HV
        clear hv
        go_wp2_with fail
        refine HV.out.mono ?_
        rintro e w3 ⟨rfl, hb3⟩
        have HB3 := Lib.hid hb3
        have HX3 := Lib.hid (HX.out w3 hb3)
        clear d0 d1 d2 d3 d4 d5 d6 d7 hb3
        have d0 := HX3.out.1
        have d1 := HX3.out.2.1
        have d2 := HX3.out.2.2.1
        have d3 := HX3.out.2.2.2.1
        have d4 := HX3.out.2.2.2.2.1
        have d5 := HX3.out.2.2.2.2.2.1
        have d6 := HX3.out.2.2.2.2.2.2.1
        have d7 := HX3.out.2.2.2.2.2.2.2
        go_wp2_with fail
        refine (HTW.out w3 HB3.out).mono ?_
        rintro e w5 ⟨y5, rfl, s5, c5, rfl, ho5, hb5⟩
        have HB5 := Lib.hid (bnext HB3.out hb5)
        have HO5 := Lib.hid (own_base2 ho5 HB3.out.size)
        clear ho5 hb5 d0 d1 d2 d3 d4 d5 d6 d7
        go_wp2_with fail
        refine (HST.out w5 HB5.out tp s5 tn c5 tf ⟨kg, ko, kn, kd, kc, kt⟩).mono ?_
        rintro e w6 ⟨rfl, ht6, hk6⟩
        have HR6 := Lib.hid (HI.out.step HA.out HJX.out HB5.out HSTL.out HFK.out HO5.out HN63.out ht6 hk6)
        have HK6 := Lib.hid ((HKP.out.trans (Keeps.of_below HB5.out)).trans hk6)
        clear ht6 hk6
        go_wp2_with fail
        go_roundw
        case rel =>
          refine ⟨k + 1, by go_num, by omega, Lib.hid fun j hj => ?_, HR6, HK6⟩
          by_cases ej : j = k
          · rw [ej]; exact HOV.out
          · exact HOKS.out j (by omega)
        case measure => simp [intOf]; omega
      · have HNV := Lib.hid (show ¬ ∀ j, j < m → okTk (TT j) from fun hh => hv (by have h1 := hh k hkm; rw [← HTI.out] at h1; exact h1))
        rw [show validE tp tn tf ⟨kg, ko, kn, kd, kc, kt⟩ = 270 from if_neg hv, errV_ne (by decide)] at HV
        clear hv
        go_wp2_with fail
        refine HV.out.mono ?_
        rintro e w3 ⟨rfl, hb3⟩
        have HB3 := Lib.hid (bnext HBR.out hb3)
        clear hb3 d0 d1 d2 d3 d4 d5 d6 d7
        go_wp2_with fail
        go_ret2
        exact .inr ⟨fun h => HNV.out h.1, rfl, HB3.out⟩
    · have hkk : k = m := by omega
      subst hkk
      have HF := Lib.hid (HI.out.finP (by rw [HAT.out]; exact HRK.out) la)
      have HO2 := Lib.hid HOKS.out
      go_wp2_with fail
      go_ret2
      exact .inl ⟨⟨HO2.out, HLK.out⟩, HF.out⟩
end Go.Proofs.YtedgchafligndaaGreat
/- The program's pool: Load of anything, Twin; no condition but those that each row names. -/
namespace Go.Proofs.YtedgchafligndaaGreat
open Go.RowKit Tsk

set_option maxHeartbeats 2000000 in
set_option maxRecDepth 100000 in
theorem plload_no1 (gens : List Int) (la : Int) (v x y : Value) (w : World) (hv : Lst (fun _ => False) w v (ints gens)) (h : ¬ (gens.length = 16 ∧ -1 ≤ la ∧ la < 16)) :
    Calls Tryz.prog 6 #[v, x, y, .int .i64 la] w fun e w' => e = .returned (.tuple #[.pointer none, errV 1]) ∧ Below w.heap.size w w' := by
  obtain ⟨p, cp, rfl, _, _⟩ := hv
  rw [ints_len, errV_ne (by decide)]
  by_cases h1 : gens.length = 16
  · rw [h1]
    by_cases h2 : la < -1
    · clear h
      go_enter Tryz.func6, Tryz.ntmps6
      go_wp2_with fail
      go_ret2
      exact ⟨rfl, Below.refl _ _⟩
    · have h3 : (16 : Int) ≤ la := by omega
      clear h
      go_enter Tryz.func6, Tryz.ntmps6
      go_wp2_with fail
      go_ret2
      exact ⟨rfl, Below.refl _ _⟩
  · have hd : ((gens.length : Int) != 16) = true := by rw [bne_iff_ne]; omega
    clear h
    go_enter Tryz.func6, Tryz.ntmps6
    go_wp2_with fail
    go_ret2
    exact ⟨rfl, Below.refl _ _⟩
set_option maxHeartbeats 2000000 in
set_option maxRecDepth 100000 in
theorem plload_no2 (gens : List Int) (taken : List Bool) (m : Nat) (TT : Nat → Tk) (la : Int) (v x y : Value) (w : World) (hv : Lst (fun _ => False) w v (ints gens)) (hx : Lst (fun _ => False) w x (bools taken)) (hy : Tasks w y m TT) (h8 : gens.length = 16) (hla : -1 ≤ la ∧ la < 16) (h : ¬ ((taken.length = gens.length ∧ standB gens taken gens.length) ∧ m = rank taken taken.length)) :
    Calls Tryz.prog 6 #[v, x, y, .int .i64 la] w fun e w' => e = .returned (.tuple #[.pointer none, errV 270]) ∧ Below w.heap.size w w' := by
  have HK := Lib.hid (kload_no2 (fun _ => False) 3 gens taken m TT v x y w hv hx hy (by omega) (by omega) (by omega) (by omega) h)
  obtain ⟨p, cp, rfl, _, _⟩ := hv
  rw [ints_len] at HK ⊢
  rw [h8] at HK ⊢
  rw [errV_ne (by decide)]
  have q1 : ¬ la < -1 := by omega
  have q2 : ¬ (16 : Int) ≤ la := by omega
  clear h h8 hx hy hla
  go_enter Tryz.func6, Tryz.ntmps6
  go_wp2_with fail
  refine HK.out.mono ?_
  rintro e w1 ⟨rfl, hb⟩
  have HB := Lib.hid hb
  clear hb
  go_wp2_with fail
  go_ret2
  exact ⟨rfl, HB.out⟩
theorem plload (gens : List Int) (taken : List Bool) (m : Nat) (TT : Nat → Tk) (L : List Int) (la : Int) (v x y : Value) (w : World) (hv : Lst (fun _ => False) w v (ints gens)) (hx : Lst (fun _ => False) w x (bools taken)) (hy : Tasks w y m TT) (hok : ∀ j, j < m → (TT j).k.c ≤ 9223372036854775807 ∧ (TT j).n * 32 ≤ 140737488355328) (hL : L.length = 16) :
    Calls Tryz.prog 6 #[v, x, y, .int .i64 la] w fun e w' =>
      (¬ (gens.length = 16 ∧ -1 ≤ la ∧ la < 16) ∧ e = .returned (.tuple #[.pointer none, errV 1]) ∧ Below w.heap.size w w') ∨
      ((gens.length = 16 ∧ -1 ≤ la ∧ la < 16) ∧ LoadAnyP w (((taken.length = gens.length ∧ standB gens taken gens.length) ∧ m = rank taken taken.length) ∧ (∀ j, j < m → okTk (TT j)) ∧ lastOk gens taken la) (loadTo 3 gens taken L) (fillT taken TT 16) la e w') := by
  by_cases h8 : gens.length = 16 ∧ -1 ≤ la ∧ la < 16
  · by_cases h : (taken.length = gens.length ∧ standB gens taken gens.length) ∧ m = rank taken taken.length
    · refine (plload_mid gens taken m TT L la v x y w hv hx hy hok h8.1 hL h8.2 h).mono fun e w' hh => .inr ⟨h8, ?_⟩
      rcases hh with ⟨h1, h2⟩ | ⟨h1, h2⟩
      · exact .inl ⟨⟨h, h1⟩, h2⟩
      · exact .inr ⟨fun hh => h1 hh.2, h2⟩
    · exact (plload_no2 gens taken m TT la v x y w hv hx hy h8.1 h8.2 h).mono fun e w' hh => .inr ⟨h8, .inr ⟨fun k => h k.1, hh⟩⟩
  · exact (plload_no1 gens la v x y w hv h8).mono fun e w' hh => .inl ⟨h8, hh⟩
/-- What Twin answers. -/
def TwinPl (w : World) (A : Tab) (T : Nat → Tk) (la : Int) (e : Ending) (w' : World) : Prop :=
  ∃ S v, e = .returned v ∧ (∀ X : Nat → Prop, (∀ x, X x → x < w.heap.size) → Pl S (fun x => X x ∨ S x) w.heap.size w' A T la v) ∧ Below w.heap.size w w'
theorem Pl.base {S X : Nat → Prop} {B B' : Nat} {w : World} {A : Tab} {T : Nat → Tk} {la : Int} {v : Value} (h : Pl S X B w A T la v) (hb : B' ≤ B) : Pl S X B' w A T la v := by
  obtain ⟨sl, bl, ST, tv, ev, hc, hcl, ht, ⟨hbb, hns⟩, hS, hj⟩ := h.parts
  obtain ⟨b, g1, c1, g2, c2, g3, c3, ev2, hp, hST⟩ := ht
  exact Pl.of ev hc hcl ⟨b, g1, c1, g2, c2, g3, c3, ev2, ⟨hp.f0, hp.f1, hp.f2, hp.f3, ⟨own_base2 hp.own.g hb, own_base2 hp.own.t hb, own_base2 hp.own.l hb, hp.own.n12, hp.own.n13, hp.own.n23⟩, Nat.le_trans hb hp.hb, hp.n1, hp.n2, hp.n3⟩, hST⟩ ⟨Nat.le_trans hb hbb, hns⟩ hS hj
set_option maxHeartbeats 1000000 in
set_option maxRecDepth 100000 in
theorem pltwin (S X : Nat → Prop) (B : Nat) (A : Tab) (T : Nat → Tk) (la : Int) (hg : PGood A T la) (hz : ∀ i, A.t i = false → T i = tk0) (hlo : lastOk A.gens A.taken la) (w : World) (v : Value) (h : Pl S X B w A T la v) :
    Calls Tryz.prog 15 #[v] w (TwinPl w A T la) := by
  have HSV := Lib.hid (plsave S X B A T la hg w v h)
  have hll := hg.tab.ll
  have hl8 := hg.len
  have hLd := Lib.hid (fun W g c sf gs ts (h1 : Lst (fun _ => False) W gs (ints A.gens)) (h2 : Lst (fun _ => False) W ts (bools A.taken)) (h3 : Tasks W (.slice (some ⟨g, 0, none⟩) A.idxs.length c) A.idxs.length (tm (toldF A T) sf)) =>
    plload A.gens A.taken A.idxs.length (tm (toldF A T) sf) A.list la gs ts _ W h1 h2 h3 (fun j _ => ⟨okT_c (hg.ok _), by have := (hg.ok (A.idxs.getD j 0)).2.1; show (T (A.idxs.getD j 0)).n * 32 ≤ _; omega⟩) (by omega))
  have HOK := Lib.hid (show ∀ sf, (A.gens.length = 16 ∧ -1 ≤ la ∧ la < 16) ∧ ((A.taken.length = A.gens.length ∧ standB A.gens A.taken A.gens.length) ∧ A.idxs.length = rank A.taken A.taken.length) ∧ (∀ j, j < A.idxs.length → okTk (tm (toldF A T) sf j)) ∧ lastOk A.gens A.taken la from fun sf => ⟨⟨hl8, hg.lo, hg.hi⟩, ⟨⟨hg.tab.lt, stand_good hg.tab⟩, by rw [idxs_count, hg.tab.lt]⟩, fun j _ => hg.ok _, hlo⟩)
  have HEQ := Lib.hid (show ∀ sf, loadTo 3 A.gens A.taken A.list = A ∧ ∃ s2, fillT A.taken (tm (toldF A T) sf) 16 = tm T s2 from fun sf => ⟨by rw [← hg.kind], fun i => if i < 16 ∧ A.taken.getD i false = true then sf (rank A.taken i) else .slice none 0 0, by
    funext i
    unfold fillT
    by_cases c : i < 16 ∧ A.taken.getD i false = true
    · rw [if_pos c]
      have h1 := idxs_rank A (i := i) (by omega) c.2
      have h2 : A.idxs.getD (rank A.taken i) 0 = i := by rw [List.getD_eq_getElem?_getD, h1]; rfl
      unfold tm toldF
      simp only [h2, if_pos c]
    · rw [if_neg c]
      have hti : A.t i = false := by
        cases hti : A.t i with
        | false => rfl
        | true => exact absurd ⟨by have := t_len2 hg.tab hti; omega, hti⟩ c
      unfold tm
      simp only [hz i hti, if_neg c]⟩)
  obtain ⟨bl, rfl, _⟩ := h.ptr
  unfold SavePl at HSV
  clear hg hz hll hl8 hlo h
  go_enter Tryz.func15, Tryz.ntmps15
  go_wp2_with fail
  refine HSV.out.mono ?_
  rintro e w1 ⟨gs, ts, g, c, sf, rfl, h1, h2, h3, hb1⟩
  have HB1 := Lib.hid hb1
  have HL := Lib.hid (hLd.out w1 g c sf gs ts h1 h2 h3)
  clear h1 h2 h3 hb1
  go_wp2_with fail
  refine HL.out.mono ?_
  intro e w2 hh
  rcases hh with ⟨hn, _⟩ | ⟨_, ⟨_, S', v', rfl, hX, hb2⟩ | ⟨hn, _⟩⟩
  · exact absurd (HOK.out sf).1 hn
  · have HX := Lib.hid hX
    have HB2 := Lib.hid (bnext HB1.out hb2)
    have HS1 := Lib.hid (HB1.out.size)
    clear hX hb2
    go_wp2_with fail
    go_ret
    obtain ⟨e1, s2, e2⟩ := HEQ.out sf
    refine ⟨S', v', rfl, fun X hX => ?_, HB2.out⟩
    have h9 := HX.out X (fun x hx => Nat.lt_of_lt_of_le (hX x hx) HS1.out)
    rw [e1, e2] at h9
    have h10 : Pl S' (fun x => X x ∨ S' x) w1.heap.size w2 A T la v' := h9
    exact h10.base HS1.out
  · exact absurd (HOK.out sf).2 hn
end Go.Proofs.YtedgchafligndaaGreat
/- What always holds of a pool while it is played, kept by each act; nothing of the program; no condition. -/
namespace Go.Proofs.YtedgchafligndaaGreat
open Go.RowKit Tsk

structure PI (A : Tab) (T : Nat → Tk) (la : Int) : Prop where
  good : PGood A T la
  z : ∀ i, A.t i = false → T i = tk0
  lo : lastOk A.gens A.taken la
theorem PI.new : PI (Tab.new 3 16) (fun _ => tk0) (-1) :=
  ⟨⟨new_good (by omega) (by omega) (by omega) (by omega), rfl, by simp [Tab.new], fun _ => tk0_ok, by omega, by omega⟩, fun _ _ => rfl, fun h => absurd h.1 (by decide)⟩
theorem free_inv {A : Tab} {i : Nat} (h : A.free = some i) (hg : A.Good) : i < A.taken.length := by
  have h1 := (firstIn_inv h).1
  have h2 := hg.lt
  unfold Tab.n at h1
  omega
theorem PI.add {A : Tab} {T : Nat → Tk} {la : Int} (h : PI A T la) (p : Int) : PI (addA A p) (addT A T p) la := by
  rcases add_ways A T p with ⟨_, _, _, e3, e4⟩ | ⟨_, _, _, _, e3, e4⟩ | ⟨i, hp, hf, _, _, e3, e4⟩
  · rw [e3, e4]; exact h
  · rw [e3, e4]; exact h
  · rw [e3, e4]
    have hi := free_inv hf h.good.tab
    refine ⟨h.good.add hf (tkN_ok hp), fun j hj => ?_, fun hh => ?_⟩
    · have e : (A.addAt i 0).t j = if i = j then true else A.t j := getD_set A.taken i j true false hi
      rw [e] at hj
      by_cases c : i = j
      · rw [if_pos c] at hj; cases hj
      · rw [if_neg c] at hj
        rw [upd_ne _ (fun e => c e.symm)]
        exact h.z j hj
    · obtain ⟨h1, h2, h3⟩ := hh
      have e : (A.addAt i 0).taken.getD la.toNat false = if i = la.toNat then true else A.taken.getD la.toNat false := getD_set A.taken i la.toNat true false hi
      rw [e] at h2
      by_cases c : i = la.toNat
      · rw [if_pos c] at h2; cases h2
      · rw [if_neg c] at h2
        exact h.lo ⟨h1, h2, h3⟩
theorem PI.drop {A : Tab} {T : Nat → Tk} {la : Int} (h : PI A T la) (x : Int) : PI (dropA A x) (dropT A T x) la := by
  rcases drop_ways A T x with ⟨_, _, _, e3, e4⟩ | ⟨i, hf, _, _, e3, e4⟩
  · rw [e3, e4]; exact h
  · rw [e3, e4]
    obtain ⟨hi, _, _⟩ := find_inv hf
    have hit : i < A.taken.length := by rw [h.good.tab.lt]; exact hi
    refine ⟨h.good.drop hf, fun j hj => ?_, fun hh => ?_⟩
    · by_cases c : i = j
      · subst c; rw [upd_same]
      · have e : (A.dropAt i).t j = if i = j then false else A.t j := getD_set A.taken i j false false hit
        rw [e, if_neg c] at hj
        rw [upd_ne _ (fun e => c e.symm)]
        exact h.z j hj
    · obtain ⟨h1, h2, h3⟩ := hh
      have e1 : (A.dropAt i).taken.getD la.toNat false = if i = la.toNat then false else A.taken.getD la.toNat false := getD_set A.taken i la.toNat false false hit
      have e2 : (A.dropAt i).gens.getD la.toNat 0 = if i = la.toNat then A.g i + 1 else A.gens.getD la.toNat 0 := getD_set A.gens i la.toNat (A.g i + 1) 0 hi
      rw [e1] at h2
      rw [e2] at h3
      by_cases c : i = la.toNat
      · rw [if_pos c] at h3
        have := (h.good.tab.g1 i hi).1
        omega
      · rw [if_neg c] at h2 h3
        exact h.lo ⟨h1, h2, h3⟩
theorem PI.set {A : Tab} {T : Nat → Tk} {la : Int} (h : PI A T la) {i : Nat} (hi : A.t i = true) {x : Tk} (hx : okTk x) : PI A (upd T i x) la :=
  ⟨h.good.set i hx, fun j hj => by
    by_cases c : j = i
    · subst c; rw [hi] at hj; cases hj
    · rw [upd_ne _ c]; exact h.z j hj, h.lo⟩
theorem PI.push {A : Tab} {T : Nat → Tk} {la : Int} (h : PI A T la) (x : Int) (j : Jb) (now : Int) : PI A (pushT A T x j now) la := by
  unfold pushT
  cases hf : A.find x with
  | none => exact h
  | some i =>
    dsimp only
    by_cases c : pushE (T i).p (T i).n (T i).f (T i).k j now = 0
    · rw [if_pos c]
      exact h.set (find_inv hf).2.1 (push_ok _ c)
    · rw [if_neg c]; exact h
theorem PI.give {A : Tab} {T : Nat → Tk} {la : Int} (h : PI A T la) (now : Int) : PI A (gvT A T la now) (gvN A T la now) := by
  rcases give_ways A T la now with ⟨_, h1, h2, _, _, _, _⟩ | ⟨i, _, hi, hti, hE, _, h1, h2, _, _, _⟩
  · rw [h1, h2]; exact h
  · rw [h1, h2]
    have h3 := h.set hti (run_ok sN hE)
    exact ⟨⟨h3.good.tab, h3.good.kind, h3.good.len, h3.good.ok, by omega, by omega⟩, h3.z, fun hh => by
      have e := hh.2.1
      rw [Int.toNat_natCast] at e
      have e2 : A.taken.getD i false = true := hti
      rw [e2] at e
      cases e⟩
theorem PI.load {gens : List Int} {taken : List Bool} {m : Nat} {TT : Nat → Tk} {L : List Int} {la : Int} (h8 : gens.length = 16 ∧ -1 ≤ la ∧ la < 16) (hL : L.length = 16) (h : ((taken.length = gens.length ∧ standB gens taken gens.length) ∧ m = rank taken taken.length) ∧ (∀ j, j < m → okTk (TT j)) ∧ lastOk gens taken la) : PI (loadTo 3 gens taken L) (fillT taken TT 16) la := by
  obtain ⟨⟨⟨h1, h2⟩, h3⟩, h4, h5⟩ := h
  have hG := ok16_load h8.1 h1 h2 hL
  have hri : (loadTo 3 gens taken L).idxs.length = m := by rw [idxs_count, h3, h1]
  refine ⟨⟨hG, rfl, h8.1, fun i => ?_, h8.2.1, h8.2.2⟩, fun i hi => ?_, h5⟩
  · unfold fillT
    by_cases c : i < 16 ∧ taken.getD i false = true
    · rw [if_pos c]
      refine h4 _ ?_
      have e1 := idxs_rank (loadTo 3 gens taken L) (i := i) (by have : (loadTo 3 gens taken L).gens.length = 16 := h8.1; omega) c.2
      have e2 := (List.getElem?_eq_some_iff.1 e1).1
      rw [hri] at e2
      exact e2
    · rw [if_neg c]; exact tk0_ok
  · unfold fillT
    rw [if_neg]
    rintro ⟨_, c⟩
    have e : taken.getD i false = false := hi
    rw [c] at e
    cases e
end Go.Proofs.YtedgchafligndaaGreat
/- The law's own num; a Pool that there is not; no condition. -/
namespace Go.Proofs.YtedgchafligndaaGreat
open Go.RowKit Tsk

theorem num_nil (w : World) : Calls Tryz.prog 8 #[.nilIface] w fun e w' => e = .returned (.int .i64 0) ∧ w = w' := by
  go_enter Tryz.func8, Tryz.ntmps8
  go_wp2_with fail
  go_ret
  exact ⟨rfl, rfl⟩
theorem as_errno (n : Int) (w : World) : (Instr.typeAssert (.iface 65 (.int .i64 n)) 36 65 true).run Tryz.prog w = .ok (.tuple #[.int .i64 n, .bool true]) w := by kernel_rfl
set_option maxRecDepth 100000 in
theorem num_errno (n : Int) (w : World) : Calls Tryz.prog 8 #[.iface 65 (.int .i64 n)] w fun e w' => e = .returned (.int .i64 n) ∧ w = w' := by
  have ha := as_errno n
  go_enter Tryz.func8, Tryz.ntmps8
  go_wp2_with fail
  go_ret
  exact ⟨rfl, rfl⟩
theorem num_any (n : Int) (w : World) : Calls Tryz.prog 8 #[errV n] w fun e w' => e = .returned (.int .i64 n) ∧ w = w' := by
  by_cases h : n = 0
  · subst h; exact num_nil w
  · rw [errV_ne h]; exact num_errno n w
end Go.Proofs.YtedgchafligndaaGreat
