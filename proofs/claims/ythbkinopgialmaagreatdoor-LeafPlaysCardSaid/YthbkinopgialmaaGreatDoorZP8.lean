/- Texts of stages 3, 4, 12 and 13 that stand together: ZRefQ ZSNewR ZRefR ZRun ZRefO; no condition but those that each row names. -/
import Derived.Test.YthbkinopgialmaaGreatDoorZP2
import Derived.Test.YthbkinopgialmaaGreatDoorZP4
import Derived.Test.YthbkinopgialmaaGreatDoorZP6
import Derived.Test.YthbkinopgialmaaGreatDoorZP7
import Derived.Deep.Quiet
import Derived.Deep.QuietTactic
import Derived.Deep.OwnRows
import Derived.Deep.RegionLaw
import Derived.Deep.RegionWith
/- The document's own leaf: handle, first, Ready, Task, All; no condition but those that each row names. -/
namespace Go.Proofs.YthbkinopgialmaaGreatDoor
open Go.RowKit Tsk

set_option maxHeartbeats 2000000 in
set_option maxRecDepth 100000 in
theorem rhandle (X : Nat → Prop) (A : Tab) (T : Nat → Tk) (hg : LGood A T) (gs ts ls ks : Value) (w : World) (h : DL X w A T gs ts ls ks) (i : Nat) (hi : A.t i = true) :
    Calls Tryz.prog 61 #[lv A.kind gs ts ls ks, .int .i64 i] w fun e w' => e = .returned (.int .i64 (A.hd i)) ∧ Below w.heap.size w w' := by
  have hil := t_len2 hg.tab hi
  have h8 := hg.len
  have hgi := hg.tab.gt i hil hi
  have HM := Lib.hid (fun W => rmk_ok 2 i (A.g i) W ⟨by omega, by omega, by omega, by omega, (hg.tab.g1 i hil).1, hgi⟩)
  have hh : A.hd i = mkH 2 i (A.g i) := by unfold Tab.hd; rw [hg.kind]
  rw [hh]
  obtain ⟨p, cp, q, cq, r, cr, rfl, rfl, rfl⟩ := h.rt.shapes
  obtain ⟨_, ⟨pk, ck, rfl, _⟩, _, _⟩ := h.tk
  obtain ⟨_, _, e, _, hc⟩ := h.rt.g
  obtain ⟨b, off, e2, _, hcell⟩ := hc i _ (ints_at hil)
  have e3 : p = some ⟨b, off, none⟩ := by
    simp only [Value.slice.injEq] at e
    rw [e.1]; exact e2
  subst e3
  have hcell' : w.cell? ⟨b, off + i, none⟩ = some (.int .i64 (A.g i)) := hcell
  have hbl : b < w.heap.size := cell_lt hcell
  have hk2 : A.kind = 2 := hg.kind
  generalize A.g i = gv at *
  generalize mkH 2 i gv = y at *
  rw [h8, hk2]
  have z0 : (0 : Int) ≤ (i : Int) := by omega
  have z1 : (i : Int) < 8 := by omega
  obtain ⟨WA, hWA⟩ : ∃ WA, WA = w.alloc (.cells #[.int .i64 2, .slice (some ⟨b, off, none⟩) 8 cp, .slice q A.taken.length cq, .slice r A.list.length cr, .slice pk 8 ck] LT) := ⟨_, rfl⟩
  have HB := Lib.hid (show Below w.heap.size w WA from by rw [hWA]; exact (Below.refl _ _).alloc (Nat.le_refl _) _)
  have HT := Lib.hid (show HasL WA w.heap.size 2 (.slice (some ⟨b, off, none⟩) 8 cp) (.slice q A.taken.length cq) (.slice r A.list.length cr) (.slice pk 8 ck) from by rw [hWA]; exact hasL_new _ _ _ _ _ _)
  have hc1 := (HB.out.cell (p := ⟨b, off + i, none⟩) hbl).trans hcell'
  have HW := Lib.hid hWA
  clear hWA h hg hh hi hil h8 hgi hc e e2 hcell hcell' hk2
  go_enter Tryz.func61, Tryz.ntmps61
  go_upto_region 1 with fail
  rw [← HW.out]
  obtain ⟨a0, a1, a2, a3, a4⟩ := HT.out.cells
  go_wp2_with fail
  refine (HM.out _).mono ?_
  rintro e w1 ⟨rfl, rfl⟩
  go_wp2_with fail
  go_ret
  exact ⟨rfl, HB.out⟩
set_option maxHeartbeats 8000000 in
set_option maxRecDepth 100000 in
theorem rfirst (X : Nat → Prop) (A : Tab) (T : Nat → Tk) (hg : LGood A T) (gs ts ls ks : Value) (w : World) (h : DL X w A T gs ts ls ks) :
    Calls Tryz.prog 59 #[lv A.kind gs ts ls ks] w fun e w' => e = .returned (.int .i64 (rdy A T)) ∧ Below w.heap.size w w' := by
  have h8 := hg.len
  have hlt := hg.tab.lt
  obtain ⟨p, cp, q, cq, r, cr, rfl, rfl, rfl⟩ := h.rt.shapes
  obtain ⟨sl, hTX⟩ := h.tk
  have HTX := Lib.hid hTX.tk
  obtain ⟨pk, ck, rfl, _, _⟩ := id hTX.tk
  have HTA := Lib.hid h.rt.t
  generalize hkk : A.kind = kk at *
  obtain ⟨WA, hWA⟩ : ∃ WA, WA = w.alloc (.cells #[.int .i64 kk, .slice p A.gens.length cp, .slice q A.taken.length cq, .slice r A.list.length cr, .slice pk 8 ck] LT) := ⟨_, rfl⟩
  have HB := Lib.hid (show Below w.heap.size w WA from by rw [hWA]; exact (Below.refl _ _).alloc (Nat.le_refl _) _)
  have HT := Lib.hid (show HasL WA w.heap.size kk (.slice p A.gens.length cp) (.slice q A.taken.length cq) (.slice r A.list.length cr) (.slice pk 8 ck) from by rw [hWA]; exact hasL_new _ _ _ _ _ _)
  have HW := Lib.hid hWA
  have HCT := Lib.hid (show ∀ W, Below w.heap.size w W → ∀ i, i < 8 → ∃ b off, q = some ⟨b, off, none⟩ ∧ W.cell? ⟨b, off + i, none⟩ = some (.bool (A.t i)) from fun W hb i hi => by
    obtain ⟨_, _, e, _, hc⟩ := HTA.out
    simp only [Value.slice.injEq] at e
    obtain ⟨b, off, e2, _, hcell⟩ := hc i _ (bools_at (by omega))
    exact ⟨b, off, by rw [e.1]; exact e2, (hb.cell (p := ⟨b, off + i, none⟩) (cell_lt hcell)).trans hcell⟩)
  have HL8 := Lib.hid (show A.taken.length = 8 by omega)
  rw [HL8.out] at HT
  have e8 : A.taken.length = 8 := HL8.out
  have HREL := Lib.hid (show ∀ i, fsS A.t T (i + 1) = if A.t i = true ∧ 0 < (T i).n ∧ (fsS A.t T i < 0 ∨ (T i).p < (T (fsS A.t T i).toNat).p) then (i : Int) else fsS A.t T i from fun i => rfl)
  clear hWA h hg h8 hlt hkk hTX
  rw [e8]
  clear e8
  go_enter Tryz.func59, Tryz.ntmps59
  go_upto_region 1 with fail
  rw [show ((w.alloc (.cells #[.int .i64 kk, .slice p A.gens.length cp, .slice q 8 cq, .slice r A.list.length cr, .slice pk 8 ck] LT))) = WA from by rw [HW.out, HL8.out]]
  obtain ⟨a0, a1, a2, a3, a4⟩ := HT.out.cells
  go_wp2_with fail
  go_loopw [3, 4] (fun bv iv wr => ∃ i : Nat, iv = .int .i64 i ∧ i ≤ 8 ∧ bv = .int .i64 (fsS A.t T i) ∧ Hid (Below WA.heap.size WA wr)) (fun _ iv _ => 8 - (intOf iv).toNat)
  case atStart => exact ⟨0, rfl, Nat.zero_le _, rfl, Lib.hid (Below.refl _ _)⟩
  case round =>
    clear a0 a1 a2 a3 a4
    obtain ⟨i, rfl, hi, rfl, HBX⟩ := hrel
    obtain ⟨a0, a1, a2, a3, a4⟩ := HasL.cells (HT.out.below HBX.out)
    have z0 : (0 : Int) ≤ (i : Int) := by omega
    by_cases hi8 : i < 8
    · have z1 : (i : Int) < 8 := by omega
      obtain ⟨bt, ot, rfl, ct⟩ := HCT.out _ (bnext HB.out HBX.out) i hi8
      obtain ⟨_, _, e, _, hc⟩ := HTX.out.below (bnext HB.out HBX.out)
      simp only [Value.slice.injEq] at e
      obtain ⟨bk, ok, e2, d0, d1, _, _, _, _, _, _, hJ⟩ := hc i hi8
      have e3 : pk = some ⟨bk, ok, none⟩ := by rw [e.1]; exact e2
      subst e3
      obtain ⟨s1, cs1, hs1, _⟩ := hJ
      have d1' : wr.cell? ⟨bk, ok + i * 8 + 1, none⟩ = some (.slice s1 (T i).n cs1) := by rw [d1]; exact congrArg some hs1
      have d0' : wr.cell? ⟨bk, ok + i * 8, none⟩ = some (.int .i64 (T i).p) := d0
      have HPB := Lib.hid (show ∀ j, j < 8 → wr.cell? ⟨bk, ok + j * 8, none⟩ = some (.int .i64 (T j).p) from fun j hj => by
        obtain ⟨bk', ok', e2', d0'', _⟩ := hc j hj
        rw [e2] at e2'
        cases e2'
        exact d0'')
      have HR := Lib.hid (HREL.out i)
      have hfl := fs_le A.t T i
      generalize fsS A.t T i = bst at *
      clear hc hs1 d0 d1 e e2 HCT
      generalize (T i).n = tn at *
      generalize hti : A.t i = tk at *
      cases tk with
      | false =>
        have HR2 := Lib.hid (HR.out.trans (if_neg (fun x => by cases x.1)))
        clear hti
        go_wp2_with fail
        go_quiet (fail)
        go_wp2_with fail
        go_roundw
        case rel => exact ⟨i + 1, by go_num, by omega, by rw [HR2.out], Lib.hid (by first | exact below_drewN HBX.out _ | exact below_drew HBX.out)⟩
        case measure => simp [intOf]; omega
      | true =>
        clear hti
        by_cases hn : 0 < tn
        · have g1 : decide (0 < tn) = true := decide_eq_true hn
          by_cases hb : bst < 0
          · have g2 : decide (bst < 0) = true := decide_eq_true hb
            have HR2 := Lib.hid (HR.out.trans (if_pos ⟨rfl, hn, .inl hb⟩))
            go_wp2_with fail
            go_quiet (fail)
            go_wp2_with fail
            go_roundw
            case rel => exact ⟨i + 1, by go_num, by omega, by rw [HR2.out], Lib.hid (by first | exact below_drewN HBX.out _ | exact below_drew HBX.out)⟩
            case measure => simp [intOf]; omega
          · have g2 : decide (bst < 0) = false := decide_eq_false hb
            obtain ⟨j, rfl⟩ : ∃ j : Nat, bst = j := ⟨bst.toNat, by omega⟩
            rw [Int.toNat_natCast] at HR
            have hj8 : j < 8 := by omega
            have dj := HPB.out j hj8
            have y0 : (0 : Int) ≤ (j : Int) := by omega
            have y1 : (j : Int) < 8 := by omega
            generalize (T i).p = pi' at *
            generalize (T j).p = pj' at *
            by_cases hp : pi' < pj'
            · have g3 : decide (pi' < pj') = true := decide_eq_true hp
              have HR2 := Lib.hid (HR.out.trans (if_pos ⟨rfl, hn, .inr hp⟩))
              go_wp2_with fail
              go_quiet (fail)
              go_wp2_with fail
              go_roundw
              case rel => exact ⟨i + 1, by go_num, by omega, by rw [HR2.out], Lib.hid (by first | exact below_drewN HBX.out _ | exact below_drew HBX.out)⟩
              case measure => simp [intOf]; omega
            · have g3 : decide (pi' < pj') = false := decide_eq_false hp
              have HR2 := Lib.hid (HR.out.trans (if_neg (fun x => x.2.2.elim hb hp)))
              go_wp2_with fail
              go_quiet (fail)
              go_wp2_with fail
              go_roundw
              case rel => exact ⟨i + 1, by go_num, by omega, by rw [HR2.out], Lib.hid (by first | exact below_drewN HBX.out _ | exact below_drew HBX.out)⟩
              case measure => simp [intOf]; omega
        · have g1 : decide (0 < tn) = false := decide_eq_false hn
          have HR2 := Lib.hid (HR.out.trans (if_neg (fun x => hn x.2.1)))
          go_wp2_with fail
          go_quiet (fail)
          go_wp2_with fail
          go_roundw
          case rel => exact ⟨i + 1, by go_num, by omega, by rw [HR2.out], Lib.hid (by first | exact below_drewN HBX.out _ | exact below_drew HBX.out)⟩
          case measure => simp [intOf]; omega
    · have hi8' : i = 8 := by omega
      subst hi8'
      have HBF := Lib.hid (bnext HB.out HBX.out)
      go_wp2_with fail
      go_ret
      exact ⟨rfl, HBF.out⟩
theorem sl5 {X : Nat → Prop} {w : World} {A : Tab} {T : Nat → Tk} {gs ts ls ks : Value} (h : DL X w A T gs ts ls ks) : IsSl3 gs ts ls ∧ ∃ pk ck, ks = .slice pk 8 ck := by
  obtain ⟨_, hTX⟩ := h.tk
  obtain ⟨pk, ck, e, _⟩ := hTX.tk
  exact ⟨h.rt.sl3, pk, ck, e⟩
set_option maxHeartbeats 2000000 in
set_option maxRecDepth 100000 in
theorem rready13 (X : Nat → Prop) (A : Tab) (T : Nat → Tk) (hg : LGood A T) (gs ts ls ks : Value) (w : World) (h : DL X w A T gs ts ls ks) :
    Calls Tryz.prog 31 #[lv A.kind gs ts ls ks] w fun e w' => e = .returned (.int .i64 (rdyH A T)) ∧ Below w.heap.size w w' := by
  have HF := Lib.hid (fun W (hb : Below w.heap.size w W) => rfirst X A T hg gs ts ls ks W (h.below hb))
  have HH := Lib.hid (fun W (hb : Below w.heap.size w W) i hi => rhandle X A T hg gs ts ls ks W (h.below hb) i hi)
  have HI := Lib.hid (fs_inv A.t T 8)
  have hk2 : A.kind = 2 := hg.kind
  rw [hk2] at HF HH ⊢
  obtain ⟨⟨p1, n1, c1, p2, n2, c2, p3, n3, c3, rfl, rfl, rfl⟩, pk, ck, rfl⟩ := sl5 h
  obtain ⟨WA, hWA⟩ : ∃ WA, WA = w.alloc (.cells #[.int .i64 2, .slice p1 n1 c1, .slice p2 n2 c2, .slice p3 n3 c3, .slice pk 8 ck] LT) := ⟨_, rfl⟩
  have HB := Lib.hid (show Below w.heap.size w WA from by rw [hWA]; exact (Below.refl _ _).alloc (Nat.le_refl _) _)
  have HT := Lib.hid (show HasL WA w.heap.size 2 (.slice p1 n1 c1) (.slice p2 n2 c2) (.slice p3 n3 c3) (.slice pk 8 ck) from by rw [hWA]; exact hasL_new _ _ _ _ _ _)
  have HW := Lib.hid hWA
  clear hWA h hg hk2
  go_enter Tryz.func31, Tryz.ntmps31
  go_upto_region 1 with fail
  rw [← HW.out]
  obtain ⟨a0, a1, a2, a3, a4⟩ := HT.out.cells
  go_wp2_with fail
  refine (HF.out _ HB.out).mono ?_
  rintro e w1 ⟨rfl, hb1⟩
  have HB1 := Lib.hid (bnext HB.out hb1)
  have HT1 := Lib.hid (HT.out.below hb1)
  clear a0 a1 a2 a3 a4 hb1
  obtain ⟨a0, a1, a2, a3, a4⟩ := HT1.out.cells
  by_cases hr : rdy A T < 0
  · have HE := Lib.hid (show rdyH A T = 0 by unfold rdyH; rw [if_pos hr])
    have g1 : decide (rdy A T < 0) = true := decide_eq_true hr
    clear hr
    go_wp2_with fail
    go_ret
    exact ⟨ret_int HE.out.symm, HB1.out⟩
  · have g1 : decide (rdy A T < 0) = false := decide_eq_false hr
    have HE := Lib.hid (show rdyH A T = A.hd (rdy A T).toNat by unfold rdyH; rw [if_neg hr])
    have hi := HI.out (by unfold rdy at hr; omega)
    have HHH := Lib.hid (HH.out w1 HB1.out (rdy A T).toNat hi.1)
    rw [show ((rdy A T).toNat : Int) = rdy A T from by omega] at HHH
    generalize A.hd (rdy A T).toNat = hx at *
    generalize rdy A T = r at *
    clear hr hi
    go_wp2_with fail
    refine HHH.out.mono ?_
    rintro e w2 ⟨rfl, hb2⟩
    have HB2 := Lib.hid (bnext HB1.out hb2)
    clear hb2
    go_wp2_with fail
    go_ret
    exact ⟨ret_int HE.out.symm, HB2.out⟩
/-- What the document's Task answers. -/
def TaskR13 (X : Nat → Prop) (w : World) (A : Tab) (T : Nat → Tk) (x : Int) (e : Ending) (w' : World) : Prop :=
  (A.find x = none → e = .returned (.tuple #[zT, .int .i64 20]) ∧ Below w.heap.size w w') ∧
  ∀ i, A.find x = some i → ∃ s, e = .returned (.tuple #[tV (T i).p s (T i).k, .int .i64 0]) ∧ JobsX X w' s (T i).n (T i).f ∧ Below w.heap.size w w'
set_option maxHeartbeats 2000000 in
set_option maxRecDepth 100000 in
theorem rtask_none (X : Nat → Prop) (A : Tab) (T : Nat → Tk) (hg : LGood A T) (gs ts ls ks : Value) (w : World) (h : DL X w A T gs ts ls ks) (x : Int) (hf : A.find x = none) :
    Calls Tryz.prog 26 #[lv A.kind gs ts ls ks, .int .i64 x] w fun e w' => e = .returned (.tuple #[zT, .int .i64 20]) ∧ Below w.heap.size w w' := by
  have HF := Lib.hid (fun W (hb : Below w.heap.size w W) => rfind_any X A hg.tab x gs ts ls W (h.rt.below hb))
  rw [hf, show optV none = -1 from rfl] at HF
  have hk2 : A.kind = 2 := hg.kind
  rw [hk2] at HF ⊢
  obtain ⟨⟨p1, n1, c1, p2, n2, c2, p3, n3, c3, rfl, rfl, rfl⟩, pk, ck, rfl⟩ := sl5 h
  obtain ⟨WA, hWA⟩ : ∃ WA, WA = (w.alloc (.cells #[.int .i64 2, .slice p1 n1 c1, .slice p2 n2 c2, .slice p3 n3 c3, .slice pk 8 ck] LT)).alloc (.cells #[.int .i64 0, .slice none 0 0, .int .i64 0, .int .i64 0, .int .i64 0, .int .i64 0, .int .i64 0, .int .i64 0] KT) := ⟨_, rfl⟩
  have HB := Lib.hid (show Below w.heap.size w WA from by rw [hWA]; exact ((Below.refl _ _).alloc (Nat.le_refl _) _).alloc (by simp) _)
  have HT := Lib.hid (show HasL WA w.heap.size 2 (.slice p1 n1 c1) (.slice p2 n2 c2) (.slice p3 n3 c3) (.slice pk 8 ck) ∧ HasT WA (w.heap.size + 1) 0 (.slice none 0 0) kZ from by rw [hWA]; exact ⟨has_old (has_new _ _ _ rfl) _, has_new _ _ _ (by simp)⟩)
  have HW := Lib.hid hWA
  clear hWA h hg hk2 hf
  go_enter Tryz.func26, Tryz.ntmps26
  go_upto_region 1 with fail
  rw [← HW.out]
  obtain ⟨a0, a1, a2, a3, a4⟩ := HT.out.1.cells
  go_wp2_with fail
  refine (HF.out _ HB.out).mono ?_
  rintro e w1 ⟨rfl, hb1⟩
  have HB1 := Lib.hid (bnext HB.out hb1)
  have HT1 := HT.out.2.below hb1
  obtain ⟨x0, x1, x2, x3, x4, x5, x6, x7⟩ := HT1.cells
  have fr := fun j => has_free HT1 j
  clear a0 a1 a2 a3 a4 hb1 HT1
  go_wp2_with fail
  refine bodyPost_ret (v := .tuple #[zT, .int .i64 20]) (by simp [results, Tryz.results26, go_sem, x0, x1, x2, x3, x4, x5, x6, x7]) rfl ⟨rfl, ?_⟩
  exact below8 HB1.out (by omega) _ _ _ _ _ _ _ _
set_option maxHeartbeats 2000000 in
set_option maxRecDepth 100000 in
theorem rtask_some (X : Nat → Prop) (A : Tab) (T : Nat → Tk) (hg : LGood A T) (gs ts ls ks : Value) (w : World) (h : DL X w A T gs ts ls ks) (x : Int) (i : Nat) (hf : A.find x = some i) :
    Calls Tryz.prog 26 #[lv A.kind gs ts ls ks, .int .i64 x] w fun e w' => ∃ s, e = .returned (.tuple #[tV (T i).p s (T i).k, .int .i64 0]) ∧ JobsX X w' s (T i).n (T i).f ∧ Below w.heap.size w w' := by
  have HF := Lib.hid (fun W (hb : Below w.heap.size w W) => rfind_any X A hg.tab x gs ts ls W (h.rt.below hb))
  rw [hf, show optV (some i) = (i : Int) from rfl] at HF
  have hi8 : i < 8 := by have h1 := (find_inv hf).1; have h2 := hg.len; omega
  have hk2 : A.kind = 2 := hg.kind
  rw [hk2] at HF ⊢
  obtain ⟨sl, hTX⟩ := h.tk
  obtain ⟨⟨p1, n1, c1, p2, n2, c2, p3, n3, c3, rfl, rfl, rfl⟩, pk, ck, rfl⟩ := sl5 h
  obtain ⟨_, _, e, _, hc⟩ := hTX.tk
  simp only [Value.slice.injEq] at e
  obtain ⟨bk, ok, e2, d0, d1, d2, d3, d4, d5, d6, d7, _⟩ := hc i hi8
  have e3 : pk = some ⟨bk, ok, none⟩ := by rw [e.1]; exact e2
  subst e3
  have HJ := Lib.hid (hTX.jx i hi8)
  obtain ⟨⟨q0, cq0, hq0, _⟩, _⟩ := hTX.jx i hi8
  have hbk : bk < w.heap.size := cell_lt d0
  obtain ⟨WA, hWA⟩ : ∃ WA, WA = (w.alloc (.cells #[.int .i64 2, .slice p1 n1 c1, .slice p2 n2 c2, .slice p3 n3 c3, .slice (some ⟨bk, ok, none⟩) 8 ck] LT)).alloc (.cells #[.int .i64 0, .slice none 0 0, .int .i64 0, .int .i64 0, .int .i64 0, .int .i64 0, .int .i64 0, .int .i64 0] KT) := ⟨_, rfl⟩
  have HB := Lib.hid (show Below w.heap.size w WA from by rw [hWA]; exact ((Below.refl _ _).alloc (Nat.le_refl _) _).alloc (by simp) _)
  have HT := Lib.hid (show HasL WA w.heap.size 2 (.slice p1 n1 c1) (.slice p2 n2 c2) (.slice p3 n3 c3) (.slice (some ⟨bk, ok, none⟩) 8 ck) ∧ HasT WA (w.heap.size + 1) 0 (.slice none 0 0) kZ from by rw [hWA]; exact ⟨has_old (has_new _ _ _ rfl) _, has_new _ _ _ (by simp)⟩)
  have HW := Lib.hid hWA
  dsimp only [tm] at d0 d1 d2 d3 d4 d5 d6 d7 hq0 HJ
  rw [hq0] at d1 HJ
  obtain ⟨t, hti⟩ : ∃ t, t = T i := ⟨_, rfl⟩
  rw [← hti] at d0 d1 d2 d3 d4 d5 d6 d7 HJ ⊢
  obtain ⟨tp, ts', tn, tf, ⟨kg, ko, kn, kd, kc, kt⟩⟩ := t
  dsimp only at d0 d1 d2 d3 d4 d5 d6 d7 HJ ⊢
  have HX := Lib.hid (fun W (hb : Below w.heap.size w W) => show _ ∧ _ ∧ _ ∧ _ ∧ _ ∧ _ ∧ _ ∧ _ from ⟨(hb.cell (p := ⟨bk, ok + i * 8, none⟩) hbk).trans d0, (hb.cell (p := ⟨bk, ok + i * 8 + 1, none⟩) hbk).trans d1, (hb.cell (p := ⟨bk, ok + i * 8 + 2, none⟩) hbk).trans d2, (hb.cell (p := ⟨bk, ok + i * 8 + 3, none⟩) hbk).trans d3, (hb.cell (p := ⟨bk, ok + i * 8 + 4, none⟩) hbk).trans d4, (hb.cell (p := ⟨bk, ok + i * 8 + 5, none⟩) hbk).trans d5, (hb.cell (p := ⟨bk, ok + i * 8 + 6, none⟩) hbk).trans d6, (hb.cell (p := ⟨bk, ok + i * 8 + 7, none⟩) hbk).trans d7⟩)
  have z0 : (0 : Int) ≤ (i : Int) := by omega
  have z1 : (i : Int) < 8 := by omega
  have HBK := Lib.hid hbk
  clear hWA h hg hk2 hf hTX hc e e2 hq0 hti d0 d1 d2 d3 d4 d5 d6 d7
  go_enter Tryz.func26, Tryz.ntmps26
  go_upto_region 1 with fail
  rw [← HW.out]
  obtain ⟨a0, a1, a2, a3, a4⟩ := HT.out.1.cells
  go_wp2_with fail
  refine (HF.out _ HB.out).mono ?_
  rintro e w1 ⟨rfl, hb1⟩
  have HB1 := Lib.hid (bnext HB.out hb1)
  clear a0 a1 a2 a3 a4
  have HT1 := HT.out.2.below hb1
  obtain ⟨x0, x1, x2, x3, x4, x5, x6, x7⟩ := HT1.cells
  have fr := fun j => has_free HT1 j
  obtain ⟨a0, a1, a2, a3, a4⟩ := (HT.out.1.below hb1).cells
  obtain ⟨d0, d1, d2, d3, d4, d5, d6, d7⟩ := HX.out w1 HB1.out
  clear hb1 HT1
  go_wp2_with fail
  have hbel := below8 HB1.out (g := w.heap.size + 1) (by omega) (.int .i64 tp) (.slice q0 tn cq0) (.int .i64 kg) (.int .i64 ko) (.int .i64 kn) (.int .i64 kd) (.int .i64 kc) (.int .i64 kt)
  refine bodyPost_ret (v := .tuple #[tV tp (.slice q0 tn cq0) ⟨kg, ko, kn, kd, kc, kt⟩, .int .i64 0]) (by simp [results, Tryz.results26, go_sem, x0, x1, x2, x3, x4, x5, x6, x7]) rfl ⟨_, rfl, HJ.out.below hbel, hbel⟩
theorem rtask (X : Nat → Prop) (A : Tab) (T : Nat → Tk) (hg : LGood A T) (gs ts ls ks : Value) (w : World) (h : DL X w A T gs ts ls ks) (x : Int) :
    Calls Tryz.prog 26 #[lv A.kind gs ts ls ks, .int .i64 x] w (TaskR13 X w A T x) := by
  cases hf : A.find x with
  | none => exact (rtask_none X A T hg gs ts ls ks w h x hf).mono fun e w' hh => ⟨fun _ => hh, fun i hi => by rw [hf] at hi; cases hi⟩
  | some i => exact (rtask_some X A T hg gs ts ls ks w h x i hf).mono fun e w' hh => ⟨fun hi => (by rw [hf] at hi; cases hi), fun j hj => by rw [hf] at hj; cases hj; exact hh⟩
set_option maxHeartbeats 2000000 in
set_option maxRecDepth 100000 in
theorem rall13 (X : Nat → Prop) (A : Tab) (T : Nat → Tk) (hg : LGood A T) (gs ts ls ks : Value) (w : World) (h : DL X w A T gs ts ls ks) (hX : ∀ x, X x → x < w.heap.size) :
    Calls Tryz.prog 29 #[lv A.kind gs ts ls ks] w (AllPost X w A) := by
  have HF := Lib.hid (fun W (hb : Below w.heap.size w W) => rall_any X A hg.tab gs ts ls W (h.rt.below hb) (fun x hx => Nat.lt_of_lt_of_le (hX x hx) hb.size))
  have hk2 : A.kind = 2 := hg.kind
  rw [hk2] at HF ⊢
  obtain ⟨⟨p1, n1, c1, p2, n2, c2, p3, n3, c3, rfl, rfl, rfl⟩, pk, ck, rfl⟩ := sl5 h
  obtain ⟨WA, hWA⟩ : ∃ WA, WA = w.alloc (.cells #[.int .i64 2, .slice p1 n1 c1, .slice p2 n2 c2, .slice p3 n3 c3, .slice pk 8 ck] LT) := ⟨_, rfl⟩
  have HB := Lib.hid (show Below w.heap.size w WA from by rw [hWA]; exact (Below.refl _ _).alloc (Nat.le_refl _) _)
  have HT := Lib.hid (show HasL WA w.heap.size 2 (.slice p1 n1 c1) (.slice p2 n2 c2) (.slice p3 n3 c3) (.slice pk 8 ck) from by rw [hWA]; exact hasL_new _ _ _ _ _ _)
  have HW := Lib.hid hWA
  clear hWA h hg hk2 hX
  go_enter Tryz.func29, Tryz.ntmps29
  go_upto_region 1 with fail
  rw [← HW.out]
  obtain ⟨a0, a1, a2, a3, a4⟩ := HT.out.cells
  go_wp2_with fail
  refine (HF.out _ HB.out).mono ?_
  rintro e w1 ⟨r, rfl, hl, hb1⟩
  have HL := Lib.hid hl
  have HB1 := Lib.hid (bnext HB.out hb1)
  clear hl hb1 a0 a1 a2 a3 a4
  go_wp2_with fail
  go_ret
  exact ⟨_, rfl, HL.out, HB1.out⟩
end Go.Proofs.YthbkinopgialmaaGreatDoor
/- The document's own New of a table; no condition but those that each row names. -/
namespace Go.Proofs.YthbkinopgialmaaGreatDoor
open Go.RowKit

set_option maxHeartbeats 2000000 in
set_option maxRecDepth 100000 in
theorem snew_no (kind many : Int) (w : World) (h : ¬ (1 ≤ kind ∧ kind ≤ 3 ∧ 1 ≤ many ∧ many ≤ 4096)) :
    Calls Tryz.prog 16 #[.int .i64 kind, .int .i64 many] w fun e w' => e = .returned (.tuple #[rv 0 (.slice none 0 0) (.slice none 0 0) (.slice none 0 0), .int .i64 1]) ∧ Below w.heap.size w w' := by
  by_cases hk : 1 ≤ kind ∧ kind ≤ 3
  · have HK := Lib.hid (fun w => rkind_yes kind w hk.1 hk.2)
    by_cases h1 : many < 1
    · clear h hk
      go_enter Tryz.func16, Tryz.ntmps16
      go_wp2_with fail
      refine (HK.out _).mono ?_
      rintro e w1 ⟨rfl, rfl⟩
      go_wp2_with fail
      refine bodyPost_ret (v := .tuple #[rv 0 (.slice none 0 0) (.slice none 0 0) (.slice none 0 0), .int .i64 1]) ?r1 rfl ?_
      case r1 => simp [results, Tryz.results16, go_sem]
      exact ⟨rfl, (Below.refl _ _).alloc (Nat.le_refl _) _⟩
    · have h2 : 4096 < many := by omega
      clear h hk
      go_enter Tryz.func16, Tryz.ntmps16
      go_wp2_with fail
      refine (HK.out _).mono ?_
      rintro e w1 ⟨rfl, rfl⟩
      go_wp2_with fail
      refine bodyPost_ret (v := .tuple #[rv 0 (.slice none 0 0) (.slice none 0 0) (.slice none 0 0), .int .i64 1]) ?r1 rfl ?_
      case r1 => simp [results, Tryz.results16, go_sem]
      exact ⟨rfl, (Below.refl _ _).alloc (Nat.le_refl _) _⟩
  · have HK := Lib.hid (fun w => rkind_no kind w hk)
    clear h hk
    go_enter Tryz.func16, Tryz.ntmps16
    go_wp2_with fail
    refine (HK.out _).mono ?_
    rintro e w1 ⟨rfl, rfl⟩
    go_wp2_with fail
    refine bodyPost_ret (v := .tuple #[rv 0 (.slice none 0 0) (.slice none 0 0) (.slice none 0 0), .int .i64 1]) ?r1 rfl ?_
    case r1 => simp [results, Tryz.results16, go_sem]
    exact ⟨rfl, (Below.refl _ _).alloc (Nat.le_refl _) _⟩

/-- What New answers, its rows of their own. -/
def NewOwn (w : World) (kind : Int) (n : Nat) (e : Ending) (w' : World) : Prop :=
  ∃ g1 c1 g2 c2 g3 c3, e = .returned (.tuple #[rv kind (.slice (some ⟨g1, 0, none⟩) n c1) (.slice (some ⟨g2, 0, none⟩) n c2) (.slice (some ⟨g3, 0, none⟩) n c3), .int .i64 0]) ∧ Own3 w.heap.size w' (Tab.new kind n) g1 c1 g2 c2 g3 c3 ∧ Below w.heap.size w w'
/-- The document's New behind its first statement. -/
def NewCut (w : World) (kind : Int) (n : Nat) (s6 : Value) (wx : World) : Prop :=
  ∃ b g2 g3, s6 = .pointer (some ⟨b, 0, none⟩) ∧ Has wx b (.cells #[.int .i64 kind, .slice none 0 0, .slice (some ⟨g2, 0, none⟩) n n, .slice (some ⟨g3, 0, none⟩) n n] 28) ∧ Has wx g2 (.cells (madeCells #[.bool false] n) 4) ∧ Has wx g3 (.cells (madeCells #[.int .i64 0] n) 3) ∧
    g2 ≠ g3 ∧ b ≠ g2 ∧ b ≠ g3 ∧ w.heap.size + 1 ≤ b ∧ w.heap.size + 1 ≤ g2 ∧ w.heap.size + 1 ≤ g3 ∧ Below (w.heap.size + 1) (w.alloc (.cells #[.int .i64 0, .slice none 0 0, .slice none 0 0, .slice none 0 0] 28)) wx
theorem newCut_mk {w : World} {kind : Int} {n b g2 g3 : Nat} {wx : World} (h1 : Has wx b (.cells #[.int .i64 kind, .slice none 0 0, .slice (some ⟨g2, 0, none⟩) n n, .slice (some ⟨g3, 0, none⟩) n n] 28)) (h2 : Has wx g2 (.cells (madeCells #[.bool false] n) 4)) (h3 : Has wx g3 (.cells (madeCells #[.int .i64 0] n) 3))
    (n1 : g2 ≠ g3) (n2 : b ≠ g2) (n3 : b ≠ g3) (l1 : w.heap.size + 1 ≤ b) (l2 : w.heap.size + 1 ≤ g2) (l3 : w.heap.size + 1 ≤ g3) (hb : Below (w.heap.size + 1) (w.alloc (.cells #[.int .i64 0, .slice none 0 0, .slice none 0 0, .slice none 0 0] 28)) wx) : NewCut w kind n (.pointer (some ⟨b, 0, none⟩)) wx :=
  ⟨b, g2, g3, rfl, h1, h2, h3, n1, n2, n3, l1, l2, l3, hb⟩

set_option maxHeartbeats 4000000 in
set_option maxRecDepth 100000 in
theorem snew_own (kind : Int) (n : Nat) (w : World) (k1 : 1 ≤ kind) (k3 : kind ≤ 3) (n1 : 1 ≤ n) (n4 : n ≤ 4096) :
    Calls Tryz.prog 16 #[.int .i64 kind, .int .i64 n] w (NewOwn w kind n) := by
  obtain ⟨i0, hi, hz0, hz1, hz2⟩ := info_parts Tryz.info3
  have HK := Lib.hid (fun w => rkind_yes kind w k1 k3)
  have hmk1 := fun w => run_make_row' (P := Tryz.prog) 25 3 (.int .i64 0) 8 Tryz.underlying25 Tryz.info3 rfl .i64 .i64 n (by omega) (by omega) w
  have hmk2 := fun w => run_make_row' (P := Tryz.prog) 26 4 (.bool false) 1 Tryz.underlying26 Tryz.info4 rfl .i64 .i64 n (by omega) (by omega) w
  have z1 : (1 : Int) ≤ (n : Int) := by omega
  have z2 : (n : Int) ≤ 4096 := by omega
  go_enter Tryz.func16, Tryz.ntmps16
  go_wp2_with fail
  refine (HK.out _).mono ?_
  rintro e w1 ⟨rfl, rfl⟩
  go_upto_region 3 with fail
  go_cut [6] (fun s6 wx => NewCut w kind n s6 wx)
  case first =>
    go_region
    all_goals
      go_wp2_with fail
      go_meet
      refine' newCut_mk (has_drew ?_) (has_drew ?_) (has_drew ?_) ?_ ?_ ?_ ?_ ?_ ?_ (below_drew ?_)
      · repeat (first | exact has_new _ _ _ (by first | rfl | (simp; done)) | refine has_old ?_ _)
      · repeat (first | exact has_new _ _ _ (by first | rfl | (simp; done)) | refine has_old ?_ _)
      · repeat (first | exact has_new _ _ _ (by first | rfl | (simp; done)) | refine has_old ?_ _)
      any_goals omega
      exact (((Below.refl _ _).alloc (by first | (simp; done) | (simp; omega)) _).alloc (by first | (simp; done) | (simp; omega)) _).alloc (by first | (simp; done) | (simp; omega)) _
  case rest =>
    obtain ⟨b, g2, g3, rfl, hb1, hb2, hb3, n23, nb2, nb3, l1, l2, l3, hbw⟩ := hcut
    have hbl := has_lt hb1
    have q0 := has_cell hb1 0
    have q1 := has_cell hb1 1
    have q2 := has_cell hb1 2
    have q3 := has_cell hb1 3
    have qf := has_free hb1
    simp only [List.getElem?_toArray, List.getElem?_cons_zero, List.getElem?_cons_succ] at q0 q1 q2 q3
    have O2 := Lib.hid (own_has (B := w.heap.size + 1) hb2 l2 n4)
    have O3 := Lib.hid (own_has (B := w.heap.size + 1) hb3 l3 n4)
    have l4 := has_lt hb2
    have l5 := has_lt hb3
    have HBW := Lib.hid hbw
    clear hb1 hb2 hb3 hbw
    go_wp2_with fail
    go_loopw [7] (fun i wr => ∃ k x, k ≤ n ∧ i = .int .i64 (k : Nat) ∧ wr.cell? ⟨b, 1, none⟩ = some x ∧ wr.cell? ⟨b, 0, none⟩ = some (.int .i64 kind) ∧ wr.cell? ⟨b, 2, none⟩ = some (.slice (some ⟨g2, 0, none⟩) n n) ∧ wr.cell? ⟨b, 3, none⟩ = some (.slice (some ⟨g3, 0, none⟩) n n) ∧
      (∀ j, wr.frozen? ⟨b, j, none⟩ = false) ∧ Hid (wr.ownsRow wc.heap.size 3 1 x k (ints (List.replicate k 1))) ∧ Hid (Keeps (fun y => y = b) wc wr)) (fun i _ => n - (intOf i).toNat)
    case atStart => exact ⟨0, _, Nat.zero_le _, rfl, q1, q0, q2, q3, qf, Lib.hid (World.ownsRow_nil _ _ _ _), Lib.hid (Keeps.refl _ _)⟩
    case round =>
      obtain ⟨k, x, hk, rfl, c1, c0, c2, c3, cf, HX, HKP⟩ := hrel
      clear q0 q1 q2 q3 qf
      have hsz := HKP.out.size
      by_cases hlt : k < n
      · obtain ⟨px, cx, hx⟩ := own_shape HX.out (by simp [ints])
        subst hx
        go_wp2_with (at_builtin; refine wpList_append_own _ rfl _ _ 25 rfl wc.heap.size 3 i0 (.int .i64 0) 1 8 Tryz.underlying25 hi hz0 hz1 hz2 rfl (by decide) _ _ _ rfl (HX.out.alloc _) ⟨wr.heap.size, 0, none⟩ 1 1 [.int .i64 1] rfl rfl ?a1 ?a2 ?a3 ?a4 ?a5 ?_)
        case a1 => exact news_one wr _ _
        case a2 => intro u hu; simp at hu; subst hu; rfl
        case a3 => unfold maxLen; omega
        case a4 => omega
        case a5 => simp; omega
        intro v' w2 hown2 hgrow2 _
        have hgb : Below wc.heap.size wr w2 := ((Below.refl wc.heap.size wr).alloc hsz _).grown hgrow2 (by simp; omega) (fun g e => (HX.out.lt g e).1)
        have hkp : Keeps (fun y => y = b) wc w2 := (HKP.out.alloc _).grown hgrow2 (fun g e => .inr (HX.out.lt g e).1)
        have HO := Lib.hid (show w2.ownsRow wc.heap.size 3 1 v' (k + 1) (ints (List.replicate (k + 1) 1)) by
          have : ints (List.replicate (k + 1) 1) = ints (List.replicate k 1) ++ [.int .i64 1] := by rw [ints_snoc, List.replicate_succ']
          rw [this]; exact hown2)
        have hc : ∀ j, w2.cell? ⟨b, j, none⟩ = wr.cell? ⟨b, j, none⟩ := fun j => hgb.cell (p := ⟨b, j, none⟩) hbl
        have d0 := (hc 0).trans c0
        have d1 := (hc 1).trans c1
        have d2 := (hc 2).trans c2
        have d3 := (hc 3).trans c3
        have df : ∀ j, w2.frozen? ⟨b, j, none⟩ = false := fun j => (hgb.frozen (p := ⟨b, j, none⟩) hbl).trans (cf j)
        have HKP2 := Lib.hid hkp
        obtain ⟨pv, cv, hv⟩ := own_shape HO.out (by simp [ints])
        subst hv
        clear hown2 hgrow2 hgb hkp hc c0 c1 c2 c3 cf
        go_wp2_with fail
        go_roundw
        case rel =>
          refine ⟨k + 1, .slice pv (k + 1) cv, by omega, by go_num, ?_, ?_, ?_, ?_, ?_, Lib.hid ?_, Lib.hid (HKP2.out.setS _ _ rfl)⟩
          · exact World.cell?_setCell_same w2 _ _ d1
          · exact (World.cell?_setCell_other w2 _ _ _ (by simp)).trans d0
          · exact (World.cell?_setCell_other w2 _ _ _ (by simp)).trans d2
          · exact (World.cell?_setCell_other w2 _ _ _ (by simp)).trans d3
          · intro j; rw [World.frozen?_setCell]; exact df j
          · exact own_other HO.out ⟨b, 1, none⟩ _ (fun e => by have := (HO.out.lt _ e).1; simp only at this; omega)
        case measure => simp [intOf]; omega
      · obtain rfl : k = n := by omega
        have hw : Below (w.heap.size + 1) (w.alloc (.cells #[.int .i64 0, .slice none 0 0, .slice none 0 0, .slice none 0 0] 28)) wr := HBW.out.trans (HKP.out.below (by omega) (fun y e => by omega))
        have hsw := hw.size
        simp at hsw
        have e0 : ∀ j, wr.cell? ⟨w.heap.size, j, none⟩ = (w.alloc (.cells #[.int .i64 0, .slice none 0 0, .slice none 0 0, .slice none 0 0] 28)).cell? ⟨w.heap.size, j, none⟩ := fun j => hw.cell (p := ⟨w.heap.size, j, none⟩) (by simp)
        have t0 : wr.cell? ⟨w.heap.size, 0, none⟩ = some (.int .i64 0) := (e0 0).trans (by simp)
        have t1 : wr.cell? ⟨w.heap.size, 1, none⟩ = some (.slice none 0 0) := (e0 1).trans (by simp)
        have t2 : wr.cell? ⟨w.heap.size, 2, none⟩ = some (.slice none 0 0) := (e0 2).trans (by simp)
        have t3 : wr.cell? ⟨w.heap.size, 3, none⟩ = some (.slice none 0 0) := (e0 3).trans (by simp)
        have tf : ∀ j, wr.frozen? ⟨w.heap.size, j, none⟩ = false := fun j => (hw.frozen (p := ⟨w.heap.size, j, none⟩) (by simp)).trans (by simp)
        obtain ⟨g1, cap, cur, rfl, hB1, _⟩ := own_block HX.out (by omega)
        have hO : Own3 (w.heap.size + 1) wr (Tab.new kind k) g1 cap g2 k g3 k := by
          refine ⟨?_, ?_, ?_, by omega, by omega, n23⟩
          · have e : (Tab.new kind k).gens.length = k := by simp [Tab.new]
            rw [e]; exact own_base HX.out (by omega)
          · have e : (Tab.new kind k).taken.length = k := by simp [Tab.new]
            have e2 : bools (Tab.new kind k).taken = List.replicate k (.bool false) := by simp [bools, Tab.new]
            rw [e, e2]; exact own_keeps O2.out HKP.out (fun g e => by simp [Value.ownBlock] at e; subst e; exact fun e => nb2 e.symm)
          · have e : (Tab.new kind k).list.length = k := by simp [Tab.new]
            have e2 : ints (Tab.new kind k).list = List.replicate k (.int .i64 0) := by simp [ints, Tab.new]
            rw [e, e2]; exact own_keeps O3.out HKP.out (fun g e => by simp [Value.ownBlock] at e; subst e; exact fun e => nb3 e.symm)
        have HO3 := Lib.hid hO
        have hbb : Below w.heap.size w wr := ((Below.refl w.heap.size w).alloc (Nat.le_refl _) _).trans (hw.mono (by simp))
        clear hO e0
        go_wp2_with fail
        refine bodyPost_ret (v := .tuple #[rv kind (.slice (some ⟨g1, 0, none⟩) k cap) (.slice (some ⟨g2, 0, none⟩) k k) (.slice (some ⟨g3, 0, none⟩) k k), .int .i64 0]) ?r1 rfl ?_
        case r1 => simp [results, Tryz.results16, go_sem, t0, t1, t2, t3]
        have hk4 := fun u0 u1 u2 u3 => ((((Keeps.refl (fun y => y = w.heap.size) wr).setS ⟨w.heap.size, 0, none⟩ u0 rfl).setS ⟨w.heap.size, 1, none⟩ u1 rfl).setS ⟨w.heap.size, 2, none⟩ u2 rfl).setS ⟨w.heap.size, 3, none⟩ u3 rfl
        refine ⟨g1, cap, g2, k, g3, k, rfl, ?_, below_keeps hbb (hk4 _ _ _ _) (fun b hb => by omega)⟩
        have hO := HO3.out
        have j1 := (hO.g.lt g1 rfl).1
        have j2 := (hO.t.lt g2 rfl).1
        have j3 := (hO.l.lt g3 rfl).1
        exact ⟨own_base (own_keeps hO.g (hk4 _ _ _ _) (fun g e => by simp [Value.ownBlock] at e; omega)) (by omega), own_base (own_keeps hO.t (hk4 _ _ _ _) (fun g e => by simp [Value.ownBlock] at e; omega)) (by omega), own_base (own_keeps hO.l (hk4 _ _ _ _) (fun g e => by simp [Value.ownBlock] at e; omega)) (by omega), hO.n12, hO.n13, hO.n23⟩

theorem snew_ok (S : Nat → Prop) (kind : Int) (n : Nat) (w : World) (hS : ∀ x, S x → x < w.heap.size) (k1 : 1 ≤ kind) (k3 : kind ≤ 3) (n1 : 1 ≤ n) (n4 : n ≤ 4096) :
    Calls Tryz.prog 16 #[.int .i64 kind, .int .i64 n] w (TabPost S w (Tab.new kind n) 0) := by
  refine (snew_own kind n w k1 k3 n1 n4).mono ?_
  rintro e w' ⟨g1, c1, g2, c2, g3, c3, rfl, hO, hb⟩
  have hr := RT.of_own3 (S := S) hO (new_good k1 k3 n1 n4) hS
  rw [show (Tab.new kind n).gens.length = n by simp [Tab.new], show (Tab.new kind n).taken.length = n by simp [Tab.new], show (Tab.new kind n).list.length = n by simp [Tab.new]] at hr
  exact ⟨_, _, _, rfl, hr, hb⟩
end Go.Proofs.YthbkinopgialmaaGreatDoor
/- The document's own leaf: Add; no condition but those that each row names. -/
namespace Go.Proofs.YthbkinopgialmaaGreatDoor
open Go.RowKit Tsk

theorem DL.mono {X Y : Nat → Prop} {w : World} {A : Tab} {T : Nat → Tk} {gs ts ls ks : Value} (h : DL X w A T gs ts ls ks) (hy : ∀ x, x < w.heap.size → Y x → X x) : DL Y w A T gs ts ls ks := by
  obtain ⟨sl, hs⟩ := h.tk
  exact ⟨h.rt.mono hy, sl, hs.mono hy⟩
theorem arr5_4 (u0 u1 u2 u3 u4 v0 v1 v2 v3 : Value) : (((#[u0, u1, u2, u3, u4].setIfInBounds 0 v0).setIfInBounds 1 v1).setIfInBounds 2 v2).setIfInBounds 3 v3 = #[v0, v1, v2, v3, u4] := by
  rw [← Array.toList_inj, Array.toList_setIfInBounds, Array.toList_setIfInBounds, Array.toList_setIfInBounds, Array.toList_setIfInBounds]; rfl
theorem HasL.set4 {W : World} {g : Nat} {k k' : Int} {gs ts ls ks gs' ts' ls' : Value} (h : HasL W g k gs ts ls ks) : HasL ((((W.setCell ⟨g, 0, none⟩ (.int .i64 k')).setCell ⟨g, 1, none⟩ gs').setCell ⟨g, 2, none⟩ ts').setCell ⟨g, 3, none⟩ ls') g k' gs' ts' ls' ks := by
  have a := has_set (has_set (has_set (has_set h 0 (.int .i64 k')) 1 gs') 2 ts') 3 ls'
  rwa [arr5_4] at a
theorem has_other4 {W : World} {g b : Nat} {o : Obj} (h : Has W g o) (hb : b ≠ g) (v0 v1 v2 v3 : Value) : Has ((((W.setCell ⟨b, 0, none⟩ v0).setCell ⟨b, 1, none⟩ v1).setCell ⟨b, 2, none⟩ v2).setCell ⟨b, 3, none⟩ v3) g o :=
  has_other (has_other (has_other (has_other h _ _ hb) _ _ hb) _ _ hb) _ _ hb
theorem below4 {B g : Nat} {w W : World} (h : Below B w W) (hg : B ≤ g) (v0 v1 v2 v3 : Value) : Below B w ((((W.setCell ⟨g, 0, none⟩ v0).setCell ⟨g, 1, none⟩ v1).setCell ⟨g, 2, none⟩ v2).setCell ⟨g, 3, none⟩ v3) :=
  below_low (below_low (below_low (below_low h _ _ hg) _ _ hg) _ _ hg) _ _ hg
theorem keeps4 {R : Nat → Prop} {g : Nat} {w W : World} (h : Keeps R w W) (hg : R g) (v0 v1 v2 v3 : Value) : Keeps R w ((((W.setCell ⟨g, 0, none⟩ v0).setCell ⟨g, 1, none⟩ v1).setCell ⟨g, 2, none⟩ v2).setCell ⟨g, 3, none⟩ v3) :=
  (((h.setS _ _ hg).setS _ _ hg).setS _ _ hg).setS _ _ hg
theorem keeps5 {R : Nat → Prop} {g : Nat} {w W : World} (h : Keeps R w W) (hg : R g) (v0 v1 v2 v3 v4 : Value) : Keeps R w (((((W.setCell ⟨g, 0, none⟩ v0).setCell ⟨g, 1, none⟩ v1).setCell ⟨g, 2, none⟩ v2).setCell ⟨g, 3, none⟩ v3).setCell ⟨g, 4, none⟩ v4) :=
  ((((h.setS _ _ hg).setS _ _ hg).setS _ _ hg).setS _ _ hg).setS _ _ hg
abbrev TT3 : TypeId := 28
/-- A table in a block of its own. -/
def HasS (W : World) (g : Nat) (k : Int) (gs ts ls : Value) : Prop := Has W g (.cells #[.int .i64 k, gs, ts, ls] TT3 (0, 0))
theorem HasS.below {W W' : World} {g : Nat} {k : Int} {gs ts ls : Value} (h : HasS W g k gs ts ls) (hb : Below W.heap.size W W') : HasS W' g k gs ts ls := (hb.block g (has_lt h)).trans h
theorem HasS.cells {W : World} {g : Nat} {k : Int} {gs ts ls : Value} (h : HasS W g k gs ts ls) : W.cell? ⟨g, 0, none⟩ = some (.int .i64 k) ∧ W.cell? ⟨g, 1, none⟩ = some gs ∧ W.cell? ⟨g, 2, none⟩ = some ts ∧ W.cell? ⟨g, 3, none⟩ = some ls :=
  ⟨(has_cell h 0).trans rfl, (has_cell h 1).trans rfl, (has_cell h 2).trans rfl, (has_cell h 3).trans rfl⟩
/-- What Add answers. -/
def AddR (X : Nat → Prop) (w : World) (A' : Tab) (T' : Nat → Tk) (h n : Int) (e : Ending) (w' : World) : Prop := ∃ gs ts ls ks, e = .returned (.tuple #[lv 2 gs ts ls ks, .int .i64 h, .int .i64 n]) ∧ DL X w' A' T' gs ts ls ks ∧ Below w.heap.size w w'
set_option maxHeartbeats 4000000 in
set_option maxRecDepth 100000 in
theorem radd_no13 (X : Nat → Prop) (A : Tab) (T : Nat → Tk) (gs ts ls ks : Value) (w : World) (h : DL X w A T gs ts ls ks) (p : Int) (hp : ¬ (0 ≤ p ∧ p ≤ 31)) :
    Calls Tryz.prog 18 #[lv 2 gs ts ls ks, .int .i64 p] w (AddR X w A T 0 2) := by
  have HN := Lib.hid (fun W => rnew_no p W hp)
  have HDL := Lib.hid h
  obtain ⟨⟨p1, n1, c1, p2, n2, c2, p3, n3, c3, rfl, rfl, rfl⟩, pk, ck, rfl⟩ := sl5 h
  obtain ⟨WA, hWA⟩ : ∃ WA, WA = (w.alloc (.cells #[.int .i64 2, .slice p1 n1 c1, .slice p2 n2 c2, .slice p3 n3 c3, .slice pk 8 ck] LT)).alloc (.cells #[.int .i64 0, .slice none 0 0, .slice none 0 0, .slice none 0 0, .slice none 0 0] LT) := ⟨_, rfl⟩
  have HB := Lib.hid (show Below w.heap.size w WA from by rw [hWA]; exact ((Below.refl _ _).alloc (Nat.le_refl _) _).alloc (by simp) _)
  have HT := Lib.hid (show HasL WA w.heap.size 2 (.slice p1 n1 c1) (.slice p2 n2 c2) (.slice p3 n3 c3) (.slice pk 8 ck) ∧ HasL WA (w.heap.size + 1) 0 (.slice none 0 0) (.slice none 0 0) (.slice none 0 0) (.slice none 0 0) from by rw [hWA]; exact ⟨has_old (has_new _ _ _ rfl) _, has_new _ _ _ (by simp)⟩)
  have HW := Lib.hid hWA
  clear hWA h hp
  go_enter Tryz.func18, Tryz.ntmps18
  go_upto_region 1 with fail
  rw [← HW.out]
  go_wp2_with fail
  refine (HN.out _).mono ?_
  rintro e w1 ⟨rfl, hb1⟩
  have HB1 := Lib.hid (bnext HB.out hb1)
  have HT1 := Lib.hid (HT.out.1.below hb1)
  have HT2 := HT.out.2.below hb1
  obtain ⟨a0, a1, a2, a3, a4⟩ := HT1.out.cells
  obtain ⟨y0, y1, y2, y3, y4⟩ := HT2.cells
  have fr := fun j => has_free HT2 j
  have hl := has_lt HT2
  have HL := Lib.hid (show w.heap.size + 1 < w1.heap.size from hl)
  have hl0 : w.heap.size < w1.heap.size := by omega
  clear hb1 HT2
  go_wp2_with fail
  refine bodyPost_ret (v := .tuple #[lv 2 (.slice p1 n1 c1) (.slice p2 n2 c2) (.slice p3 n3 c3) (.slice pk 8 ck), .int .i64 0, .int .i64 2]) (by simp [results, Tryz.results18, go_sem, y0, y1, y2, y3, y4, hl]) rfl ?_
  have hbel : Below w.heap.size w ((((((w1.setCell ⟨w.heap.size + 1, 0, none⟩ (.int .i64 2)).setCell ⟨w.heap.size + 1, 1, none⟩ (.slice p1 n1 c1)).setCell ⟨w.heap.size + 1, 2, none⟩ (.slice p2 n2 c2)).setCell ⟨w.heap.size + 1, 3, none⟩ (.slice p3 n3 c3)).setCell ⟨w.heap.size + 1, 4, none⟩ (.slice pk 8 ck)).alloc (.cells #[.int .i64 0, .slice none 0 0, .int .i64 0, .int .i64 0, .int .i64 0, .int .i64 0, .int .i64 0, .int .i64 0] KT)) :=
    (below5 HB1.out (by omega) _ _ _ _ _).alloc (by have := HL.out; simp [World.setCell]; omega) _
  exact ⟨_, _, _, _, rfl, HDL.out.below hbel, hbel⟩
set_option maxHeartbeats 4000000 in
set_option maxRecDepth 100000 in
theorem radd_some13 (X : Nat → Prop) (A : Tab) (T : Nat → Tk) (hg : LGood A T) (gs ts ls ks : Value) (w : World) (h : DL X w A T gs ts ls ks) (hX : ∀ x, X x → x < w.heap.size) (p : Int) (hp : 0 ≤ p ∧ p ≤ 31) (i : Nat) (hf : A.free = some i) :
    Calls Tryz.prog 18 #[lv 2 gs ts ls ks, .int .i64 p] w (AddR X w (A.addAt i 0) (upd T i (tkN p)) (A.hd i) 0) := by
  have HN := Lib.hid (fun W => rnew_ok p W hp)
  obtain ⟨X2, hX2⟩ : ∃ X2 : Nat → Prop, X2 = fun x => X x ∨ x = w.heap.size ∨ x = w.heap.size + 1 := ⟨_, rfl⟩
  have hD2 : DL X2 w A T gs ts ls ks := h.mono (fun x hx hy => by rw [hX2] at hy; rcases hy with hy | hy | hy; exact hy; omega; omega)
  have HX2 := Lib.hid (show ∀ x, X2 x → x < w.heap.size + 2 from fun x hx => by rw [hX2] at hx; rcases hx with hx | hx | hx; have := hX x hx; omega; omega; omega)
  have HX2b := Lib.hid (show (∀ x, X x → X2 x) ∧ X2 w.heap.size ∧ X2 (w.heap.size + 1) from by rw [hX2]; exact ⟨fun x hx => .inl hx, .inr (.inl rfl), .inr (.inr rfl)⟩)
  have hk2 : A.kind = 2 := hg.kind
  have HAD := Lib.hid (fun W (hb : Below w.heap.size w W) (hs : w.heap.size + 2 ≤ W.heap.size) => radd_some X2 A hg.tab 0 i hf gs ts ls W (hD2.rt.below hb) (fun x hx => Nat.lt_of_lt_of_le (HX2.out x hx) hs))
  rw [hk2] at HAD
  have hGA := hg.add hf (tkN_ok hp)
  obtain ⟨hi, _, _⟩ := fr_iff hf
  have hi8 : i < 8 := by have := hg.len; omega
  have hti : (A.addAt i 0).t i = true := by rw [add_t hg.tab hi, if_pos rfl]
  have hfd : (A.addAt i 0).find (A.hd i) = some i := find_hd hGA.tab hi hti
  have HFI := Lib.hid (fun W gs ts ls (hr : RT X2 W (A.addAt i 0) gs ts ls) => rfind_any X2 (A.addAt i 0) hGA.tab (A.hd i) gs ts ls W hr)
  rw [hfd, show optV (some i) = (i : Int) from rfl, hGA.kind] at HFI
  obtain ⟨sl, hTX⟩ := hD2.tk
  have HPU := Lib.hid (fun W (hb : Below w.heap.size w W) (hs : w.heap.size + 2 ≤ W.heap.size) gs ts ls (h3 : IsSl3 gs ts ls) => rput X2 W (fun x hx => Nat.lt_of_lt_of_le (HX2.out x hx) hs) 2 gs ts ls ks h3 (tm T sl) (hTX.below hb) i hi8 p (.slice none 0 0) 0 (fun _ => ⟨0, 0, 0, 0⟩) kZ (JobsX.nil _ _ _))
  have HTM := Lib.hid (tm_upd T sl i p (.slice none 0 0) 0 (fun _ => ⟨0, 0, 0, 0⟩) kZ (.slice none 0 0))
  obtain ⟨⟨p1, n1, c1, p2, n2, c2, p3, n3, c3, rfl, rfl, rfl⟩, pk, ck, rfl⟩ := sl5 h
  generalize A.hd i = hx at *
  obtain ⟨WA, hWA⟩ : ∃ WA, WA = (w.alloc (.cells #[.int .i64 2, .slice p1 n1 c1, .slice p2 n2 c2, .slice p3 n3 c3, .slice pk 8 ck] LT)).alloc (.cells #[.int .i64 0, .slice none 0 0, .slice none 0 0, .slice none 0 0, .slice none 0 0] LT) := ⟨_, rfl⟩
  have HB := Lib.hid (show Below w.heap.size w WA ∧ WA.heap.size = w.heap.size + 2 from by rw [hWA]; exact ⟨((Below.refl _ _).alloc (Nat.le_refl _) _).alloc (by simp) _, by simp⟩)
  have HT := Lib.hid (show HasL WA w.heap.size 2 (.slice p1 n1 c1) (.slice p2 n2 c2) (.slice p3 n3 c3) (.slice pk 8 ck) ∧ HasL WA (w.heap.size + 1) 0 (.slice none 0 0) (.slice none 0 0) (.slice none 0 0) (.slice none 0 0) from by rw [hWA]; exact ⟨has_old (has_new _ _ _ rfl) _, has_new _ _ _ (by simp)⟩)
  have HW := Lib.hid hWA
  clear hWA h hp hg hX2 hX hD2 hk2 hGA hi hti hfd hTX hf
  go_enter Tryz.func18, Tryz.ntmps18
  go_upto_region 1 with fail
  rw [← HW.out]
  go_wp2_with fail
  refine (HN.out _).mono ?_
  rintro e w1 ⟨rfl, hb1⟩
  obtain ⟨W1, hW1⟩ : ∃ W1, W1 = w1.alloc (.cells #[.int .i64 p, .slice none 0 0, .int .i64 0, .int .i64 0, .int .i64 0, .int .i64 0, .int .i64 0, .int .i64 0] KT) := ⟨_, rfl⟩
  have hs1 := hb1.size
  have HB1 := Lib.hid (show Below w.heap.size w W1 ∧ w.heap.size + 2 ≤ w1.heap.size ∧ W1.heap.size = w1.heap.size + 1 from by
    have h1 := bnext HB.out.1 hb1
    have h2 := HB.out.2
    rw [hW1]
    exact ⟨h1.alloc h1.size _, by omega, by simp⟩)
  have HK1 := Lib.hid (show HasL W1 w.heap.size 2 (.slice p1 n1 c1) (.slice p2 n2 c2) (.slice p3 n3 c3) (.slice pk 8 ck) ∧ HasL W1 (w.heap.size + 1) 0 (.slice none 0 0) (.slice none 0 0) (.slice none 0 0) (.slice none 0 0) ∧ HasT W1 w1.heap.size p (.slice none 0 0) kZ from by
    rw [hW1]; exact ⟨has_old (HT.out.1.below hb1) _, has_old (HT.out.2.below hb1) _, hasT_new w1 p _ kZ⟩)
  have HW1 := Lib.hid hW1
  clear hW1 hb1 hs1
  go_upto_region 4 with fail
  rw [← HW1.out]
  obtain ⟨a0, a1, a2, a3, a4⟩ := HK1.out.1.cells
  go_wp2_with fail
  refine (HAD.out W1 HB1.out.1 (by have := HB1.out; omega)).mono ?_
  rintro e w2 ⟨gs2, ts2, ls2, rfl, hrt2, hb2⟩
  obtain ⟨W2, hW2⟩ : ∃ W2, W2 = w2.alloc (.cells #[.int .i64 2, gs2, ts2, ls2] TT3) := ⟨_, rfl⟩
  have hs2 := hb2.size
  have HB2 := Lib.hid (show Below w.heap.size w W2 ∧ w1.heap.size + 1 ≤ w2.heap.size ∧ W2.heap.size = w2.heap.size + 1 from by
    have h1 := bnext HB1.out.1 hb2
    have h2 := HB1.out.2.2
    rw [hW2]
    exact ⟨h1.alloc h1.size _, by omega, by simp⟩)
  have HK2 := Lib.hid (show HasL W2 w.heap.size 2 (.slice p1 n1 c1) (.slice p2 n2 c2) (.slice p3 n3 c3) (.slice pk 8 ck) ∧ HasL W2 (w.heap.size + 1) 0 (.slice none 0 0) (.slice none 0 0) (.slice none 0 0) (.slice none 0 0) ∧ HasT W2 w1.heap.size p (.slice none 0 0) kZ ∧ HasS W2 w2.heap.size 2 gs2 ts2 ls2 from by
    rw [hW2]; exact ⟨has_old (HK1.out.1.below hb2) _, has_old (HK1.out.2.1.below hb2) _, has_old (HK1.out.2.2.below hb2) _, has_new _ _ _ rfl⟩)
  have HR2 := Lib.hid (show RT X2 W2 (A.addAt i 0) gs2 ts2 ls2 from by rw [hW2]; exact hrt2.below ((Below.refl _ _).alloc (Nat.le_refl _) _))
  have HS2 := Lib.hid hrt2.sl3
  have HW2 := Lib.hid hW2
  obtain ⟨q1, m1, d1, q2, m2, d2, q3, m3, d3, rfl, rfl, rfl⟩ := hrt2.sl3
  clear hW2 hb2 hs2 hrt2 a0 a1 a2 a3 a4
  go_upto_region 7 with fail
  rw [← HW2.out]
  obtain ⟨a0, a1, a2, a3, a4⟩ := HK2.out.1.cells
  obtain ⟨s0, s1, s2, s3⟩ := HK2.out.2.2.2.cells
  have fa := fun j => has_free HK2.out.1 j
  go_upto_region 8 with fail
  obtain ⟨W3, hW3⟩ : ∃ W3, W3 = (((W2.setCell ⟨w.heap.size, 0, none⟩ (.int .i64 2)).setCell ⟨w.heap.size, 1, none⟩ (.slice q1 m1 d1)).setCell ⟨w.heap.size, 2, none⟩ (.slice q2 m2 d2)).setCell ⟨w.heap.size, 3, none⟩ (.slice q3 m3 d3) := ⟨_, rfl⟩
  rw [← hW3]
  have HZ := Lib.hid (show w.heap.size + 2 ≤ w1.heap.size ∧ w1.heap.size + 1 ≤ w2.heap.size ∧ W2.heap.size = w2.heap.size + 1 from ⟨HB1.out.2.1, HB2.out.2.1, HB2.out.2.2⟩)
  have HB3 := Lib.hid (show Below w.heap.size w W3 ∧ W3.heap.size = W2.heap.size from by rw [hW3]; exact ⟨below4 HB2.out.1 (Nat.le_refl _) _ _ _ _, by simp [World.setCell]⟩)
  have HK3 := Lib.hid (show HasL W3 w.heap.size 2 (.slice q1 m1 d1) (.slice q2 m2 d2) (.slice q3 m3 d3) (.slice pk 8 ck) ∧ HasL W3 (w.heap.size + 1) 0 (.slice none 0 0) (.slice none 0 0) (.slice none 0 0) (.slice none 0 0) ∧ HasT W3 w1.heap.size p (.slice none 0 0) kZ ∧ HasS W3 w2.heap.size 2 (.slice q1 m1 d1) (.slice q2 m2 d2) (.slice q3 m3 d3) from by
    have hz := HZ.out
    rw [hW3]
    exact ⟨HasL.set4 HK2.out.1, has_other4 HK2.out.2.1 (by omega) _ _ _ _, has_other4 HK2.out.2.2.1 (by omega) _ _ _ _, has_other4 HK2.out.2.2.2 (by omega) _ _ _ _⟩)
  have HR3 := Lib.hid (show RT X2 W3 (A.addAt i 0) (.slice q1 m1 d1) (.slice q2 m2 d2) (.slice q3 m3 d3) from by rw [hW3]; exact HR2.out.keeps (keeps4 (Keeps.refl X2 W2) HX2b.out.2.1 _ _ _ _))
  have HD := Lib.hid (fun W (hb : Below W3.heap.size W3 W) => show _ ∧ _ ∧ _ ∧ _ ∧ ∀ j, W.frozen? ⟨w.heap.size + 1, j, none⟩ = false from ⟨HasL.cells (HK3.out.1.below hb), HasL.cells (HK3.out.2.1.below hb), HasT.cells (HK3.out.2.2.1.below hb), HasS.cells (HK3.out.2.2.2.below hb), fun j => has_free (HK3.out.2.1.below hb) j⟩)
  have HFI2 := Lib.hid (fun W (hb : Below W3.heap.size W3 W) => HFI.out W _ _ _ (HR3.out.below hb))
  have HPU2 := Lib.hid (fun W (hb : Below W3.heap.size W3 W) => HPU.out W (bnext HB3.out.1 hb) (by have := hb.size; have := HB3.out.2; have := HZ.out; omega) (.slice q1 m1 d1) (.slice q2 m2 d2) (.slice q3 m3 d3) HS2.out)
  unfold PutP at HPU2
  clear hW3 a0 a1 a2 a3 a4 s0 s1 s2 s3 fa
  obtain ⟨a0, a1, a2, a3, a4⟩ := HK3.out.1.cells
  obtain ⟨y0, y1, y2, y3, y4⟩ := HK3.out.2.1.cells
  obtain ⟨x0, x1, x2, x3, x4, x5, x6, x7⟩ := HK3.out.2.2.1.cells
  obtain ⟨s0, s1, s2, s3⟩ := HK3.out.2.2.2.cells
  have hq1 : Below W3.heap.size W3 W3.drew := below_drewOne
  go_region_law (first
    | (go_simp; go_at_call 51; refine (HFI2.out _ below_drewOne).mono ?_; rintro e wf ⟨rfl, hqb⟩; have hq2 := bnext hq1 hqb; obtain ⟨⟨a0, a1, a2, a3, a4⟩, ⟨y0, y1, y2, y3, y4⟩, ⟨x0, x1, x2, x3, x4, x5, x6, x7⟩, ⟨s0, s1, s2, s3⟩, fy⟩ := HD.out _ hq2; have HQ2 := Lib.hid hq2)
    | (go_simp; go_at_call 50; refine (HPU2.out _ HQ2.out).mono ?_; rintro e wp ⟨ks5, rfl, htp, hqp⟩; have hq3 := bnext HQ2.out hqp; obtain ⟨pk5, ck5, rfl, _⟩ := id htp.tk; have HTP := Lib.hid htp; have HQ3 := Lib.hid hq3; obtain ⟨⟨a0, a1, a2, a3, a4⟩, ⟨y0, y1, y2, y3, y4⟩, ⟨x0, x1, x2, x3, x4, x5, x6, x7⟩, ⟨s0, s1, s2, s3⟩, fy⟩ := HD.out _ hq3; clear htp hqp hq3))
  all_goals
    go_wp2_with fail
    refine bodyPost_ret (v := .tuple #[lv 2 (.slice q1 m1 d1) (.slice q2 m2 d2) (.slice q3 m3 d3) (.slice pk5 8 ck5), .int .i64 hx, .int .i64 0]) (by simp [results, Tryz.results18, go_sem, y0, y1, y2, y3, y4]) rfl ?_
    have hkp := keeps5 (Keeps.refl X2 wp) HX2b.out.2.2 (.int .i64 2) (.slice q1 m1 d1) (.slice q2 m2 d2) (.slice q3 m3 d3) (.slice pk5 8 ck5)
    exact ⟨_, _, _, _, rfl, DL.mono (X := X2) ⟨(HR3.out.below HQ3.out).keeps hkp, _, (TasksX.keeps (by rw [HTM.out]; exact HTP.out) hkp (fun _ k => k))⟩ (fun x _ hx => HX2b.out.1 x hx), below5 (bnext HB3.out.1 HQ3.out) (by omega) _ _ _ _ _⟩
set_option maxHeartbeats 4000000 in
set_option maxRecDepth 100000 in
theorem radd_none13 (X : Nat → Prop) (A : Tab) (T : Nat → Tk) (hg : LGood A T) (gs ts ls ks : Value) (w : World) (h : DL X w A T gs ts ls ks) (p : Int) (hp : 0 ≤ p ∧ p ≤ 31) (hf : A.free = none) :
    Calls Tryz.prog 18 #[lv 2 gs ts ls ks, .int .i64 p] w (AddR X w A T 0 30) := by
  have HN := Lib.hid (fun W => rnew_ok p W hp)
  have HDL := Lib.hid h
  have HAD := Lib.hid (fun W (hb : Below w.heap.size w W) => radd_none X A hg.tab 0 hf gs ts ls W (h.rt.below hb))
  rw [hg.kind] at HAD
  obtain ⟨⟨p1, n1, c1, p2, n2, c2, p3, n3, c3, rfl, rfl, rfl⟩, pk, ck, rfl⟩ := sl5 h
  obtain ⟨WA, hWA⟩ : ∃ WA, WA = (w.alloc (.cells #[.int .i64 2, .slice p1 n1 c1, .slice p2 n2 c2, .slice p3 n3 c3, .slice pk 8 ck] LT)).alloc (.cells #[.int .i64 0, .slice none 0 0, .slice none 0 0, .slice none 0 0, .slice none 0 0] LT) := ⟨_, rfl⟩
  have HB := Lib.hid (show Below w.heap.size w WA from by rw [hWA]; exact ((Below.refl _ _).alloc (Nat.le_refl _) _).alloc (by simp) _)
  have HT := Lib.hid (show HasL WA w.heap.size 2 (.slice p1 n1 c1) (.slice p2 n2 c2) (.slice p3 n3 c3) (.slice pk 8 ck) ∧ HasL WA (w.heap.size + 1) 0 (.slice none 0 0) (.slice none 0 0) (.slice none 0 0) (.slice none 0 0) from by rw [hWA]; exact ⟨has_old (has_new _ _ _ rfl) _, has_new _ _ _ (by simp)⟩)
  have HW := Lib.hid hWA
  clear hWA h hp hf hg
  go_enter Tryz.func18, Tryz.ntmps18
  go_upto_region 1 with fail
  rw [← HW.out]
  go_wp2_with fail
  refine (HN.out _).mono ?_
  rintro e w1 ⟨rfl, hb1⟩
  have HB1 := Lib.hid (bnext HB.out hb1)
  have HT1 := Lib.hid (HT.out.1.below hb1)
  have HT2 := Lib.hid (HT.out.2.below hb1)
  obtain ⟨a0, a1, a2, a3, a4⟩ := HT1.out.cells
  have hl := has_lt HT2.out
  have hl0 : w.heap.size < w1.heap.size := by omega
  clear hb1
  go_wp2_with fail
  refine (HAD.out _ (HB1.out.alloc HB1.out.size _)).mono ?_
  rintro e w2 ⟨gs2, ts2, ls2, rfl, hrt2, hb2⟩
  obtain ⟨q1, m1, d1, q2, m2, d2, q3, m3, d3, rfl, rfl, rfl⟩ := hrt2.sl3
  have HB2 := Lib.hid (bnext (HB1.out.alloc HB1.out.size _) hb2)
  have HU1 := Lib.hid (HasL.below (has_old HT1.out _) hb2)
  have HU2 := Lib.hid (HasL.below (has_old HT2.out _) hb2)
  clear hrt2 hb2 a0 a1 a2 a3 a4 hl hl0
  obtain ⟨a0, a1, a2, a3, a4⟩ := HU1.out.cells
  obtain ⟨y0, y1, y2, y3, y4⟩ := HU2.out.cells
  have fr := fun j => has_free HU2.out j
  have hl := has_lt HU2.out
  have hl0 : w.heap.size < w2.heap.size := by omega
  have HL2 := Lib.hid hl0
  go_wp2_with fail
  refine bodyPost_ret (v := .tuple #[lv 2 (.slice p1 n1 c1) (.slice p2 n2 c2) (.slice p3 n3 c3) (.slice pk 8 ck), .int .i64 0, .int .i64 30]) (by simp [results, Tryz.results18, go_sem, y0, y1, y2, y3, y4, hl]) rfl ?_
  have hbel : Below w.heap.size w ((((((w2.setCell ⟨w.heap.size + 1, 0, none⟩ (.int .i64 2)).setCell ⟨w.heap.size + 1, 1, none⟩ (.slice p1 n1 c1)).setCell ⟨w.heap.size + 1, 2, none⟩ (.slice p2 n2 c2)).setCell ⟨w.heap.size + 1, 3, none⟩ (.slice p3 n3 c3)).setCell ⟨w.heap.size + 1, 4, none⟩ (.slice pk 8 ck)).alloc (.cells #[.int .i64 2, .slice q1 m1 d1, .slice q2 m2 d2, .slice q3 m3 d3] TT3)) :=
    (below5 HB2.out (by omega) _ _ _ _ _).alloc (by have := HL2.out; simp [World.setCell]; omega) _
  exact ⟨_, _, _, _, rfl, HDL.out.below hbel, hbel⟩
theorem radd13 (X : Nat → Prop) (A : Tab) (T : Nat → Tk) (hg : LGood A T) (gs ts ls ks : Value) (w : World) (h : DL X w A T gs ts ls ks) (hX : ∀ x, X x → x < w.heap.size) (p : Int) :
    Calls Tryz.prog 18 #[lv 2 gs ts ls ks, .int .i64 p] w (AddR X w (addA A p) (addT A T p) (addH A p) (addN A p)) := by
  rcases add_ways A T p with ⟨hp, e1, e2, e3, e4⟩ | ⟨hp, hf, e1, e2, e3, e4⟩ | ⟨i, hp, hf, e1, e2, e3, e4⟩
  · rw [e1, e2, e3, e4]; exact radd_no13 X A T gs ts ls ks w h p hp
  · rw [e1, e2, e3, e4]; exact radd_none13 X A T hg gs ts ls ks w h p hp hf
  · rw [e1, e2, e3, e4]; exact radd_some13 X A T hg gs ts ls ks w h hX p hp i hf
end Go.Proofs.YthbkinopgialmaaGreatDoor
/- The document's own task: Run, the jobs that it answers in memory of their own; no condition but those that each row names. -/
namespace Go.Proofs.YthbkinopgialmaaGreatDoor
open Go.RowKit Tsk

/-- A slice of jobs that lies in new blocks. -/
def JobsF (B : Nat) (w : World) (v : Value) (n : Nat) (f : Nat → Jb) : Prop := Jobs w v n f ∧ ∀ a m c, v = .slice (some a) m c → 0 < m → B ≤ a.block
def TaskR2 (w : World) (p : Int) (n : Nat) (f : Nat → Jb) (k : Ac) (x : Value) (w' : World) : Prop := ∃ s, x = tV p s k ∧ JobsF w.heap.size w' s n f ∧ Below w.heap.size w w'
theorem task_run2 {w w' : World} {p : Int} {s : Value} {g o m d c t : Int} {n n' : Nat} {f f' : Nat → Jb} {k : Ac} (hk : k = ⟨g, o, m, d, c, t⟩) (hn : n' = n) (hf : ∀ i, i < n → f i = f' i) (hj : JobsF w.heap.size w' s n f) (hb : Below w.heap.size w w') : TaskR2 w p n' f' k (tV p s ⟨g, o, m, d, c, t⟩) w' := by
  subst hk hn
  exact ⟨s, rfl, ⟨hj.1.congr hf, hj.2⟩, hb⟩
theorem jobs_none2 {B : Nat} (W : World) (g : Option Addr) (m c : Nat) (F : Nat → Jb) (h : m = 0) : JobsF B W (.slice g m c) m F := by
  refine ⟨jobs_none W g m c F h, fun a m' c' e h0 => ?_⟩
  cases e
  omega
theorem jobs_tail2 {B B' n c4 : Nat} {W : World} {g : Nat} {F : Nat → Jb} (h : JobsO (B' + 2) W (.slice (some ⟨g, 0, none⟩) n c4) n F) (hn : n ≤ 9223372036854775807) (_hB : B = B' + 2 := by rfl) : JobsF B' W (.slice (some ⟨g, 4, none⟩) (n - 1) (c4 - 1)) (n - 1) (fun i => F (i + 1)) := by
  refine ⟨jobs_tail h hn, fun a m' c' e h0 => ?_⟩
  cases e
  obtain ⟨g', cap, e2, _, hg, _⟩ := own_block2 h (by omega)
  cases e2
  show B' ≤ g
  omega
theorem own_jobs2 {B B' n : Nat} {W : World} {v : Value} {f : Nat → Jb} (h : JobsO (B' + 2) W v n f) (hn : n ≤ 9223372036854775807) (_hB : B = B' + 2 := by rfl) : JobsF B' W v n f := by
  refine ⟨own_jobs h hn, fun a m' c' e h0 => ?_⟩
  obtain ⟨p, cap, e3, _⟩ := own_small h
  rw [e] at e3
  cases e3
  obtain ⟨g', cap', e2, _, hg, _⟩ := own_block2 h h0
  rw [e] at e2
  cases e2
  show B' ≤ g'
  omega
theorem zero_taskR2 {w w' : World} (f : Nat → Jb) (hb : Below w.heap.size w w') : TaskR2 w 0 0 f kZ zT w' := ⟨_, rfl, jobs_none2 _ _ _ _ _ rfl, hb⟩
set_option maxHeartbeats 4000000 in
set_option maxRecDepth 100000 in
theorem rrun_ok2 (p : Int) (s : Value) (n : Nat) (f : Nat → Jb) (k : Ac) (now : Int) (w : World) (h : Jobs w s n f) (hv : okT p n f k) (hn : 0 ≤ now ∧ now < 1073741824) (h0 : 0 < n) (hg : k.g < 1073741824) :
    Calls Tryz.prog 60 #[tV p s k, .int .i64 now] w fun e w' => ∃ x, e = .returned (.tuple #[x, .int .i64 (runW (f 0)), .int .i64 (runL (f 0) now), .int .i64 0]) ∧ TaskR2 w p (runN n (f 0)) (runF f) (runK k (f 0) now) x w' := by
  have HV := Lib.hid (fun w (h : Jobs w s n f) => rvalid p s n f k w h)
  rw [ok_yes hv] at HV
  have HOK := Lib.hid hv
  clear hv
  have hnb : decide (now < 0) = false := decide_eq_false (by omega)
  have hnc : decide (1073741824 ≤ now) = false := decide_eq_false (by omega)
  have hz : decide (0 < n) = true := decide_eq_true h0
  have HJ := Lib.hid h
  obtain ⟨q, cap, rfl, _, _⟩ := h
  obtain ⟨kg, ko, kn, kd, kc, kt⟩ := k
  have hg2 : kg < 1073741824 := hg
  have hg3 : (kg == 1073741824) = false := by simp; omega
  clear hg
  obtain ⟨WA, hWA⟩ : ∃ WA, WA = (w.alloc (.cells #[.int .i64 p, .slice q n cap, .int .i64 kg, .int .i64 ko, .int .i64 kn, .int .i64 kd, .int .i64 kc, .int .i64 kt] KT)).alloc (.cells #[.int .i64 0, .slice none 0 0, .int .i64 0, .int .i64 0, .int .i64 0, .int .i64 0, .int .i64 0, .int .i64 0] KT) := ⟨_, rfl⟩
  have HB := Lib.hid (show Below w.heap.size w WA from by rw [hWA]; exact ((Below.refl _ _).alloc (Nat.le_refl _) _).alloc (by simp) _)
  have HA := Lib.hid (show HasT WA w.heap.size p (.slice q n cap) ⟨kg, ko, kn, kd, kc, kt⟩ ∧ HasT WA (w.heap.size + 1) 0 (.slice none 0 0) kZ ∧ WA.heap.size = w.heap.size + 2 from by
    rw [hWA]
    exact ⟨has_old (has_new w _ _ rfl) _, has_new _ _ _ (by simp), by simp⟩)
  have HW := Lib.hid hWA
  clear hWA
  go_enter Tryz.func60, Tryz.ntmps60
  go_wp2_with fail
  rw [← HW.out]
  refine (HV.out _ (HJ.out.below HB.out)).mono ?_
  rintro e w1 ⟨rfl, hb1⟩
  have HB1 := Lib.hid (bnext HB.out hb1)
  have HC1 := Lib.hid hb1
  obtain ⟨x0, x1, x2, x3, x4, x5, x6, x7⟩ := (HA.out.1.below hb1).cells
  obtain ⟨y0, y1, y2, y3, y4, y5, y6, y7⟩ := (HA.out.2.1.below hb1).cells
  have f1 : ∀ j, w1.frozen? ⟨w.heap.size + 1, j, none⟩ = false := fun j => has_free (HA.out.2.1.below hb1) j
  clear hb1
  go_wp2_with fail
  refine (rready p q n cap ⟨kg, ko, kn, kd, kc, kt⟩ _).mono ?_
  rintro e w3 ⟨rfl, hb3⟩
  rw [hz]
  have HB3 := Lib.hid (bnext HB1.out hb3)
  have hc3 := bnext HC1.out hb3
  clear x0 x1 x2 x3 x4 x5 x6 x7 y0 y1 y2 y3 y4 y5 y6 y7 f1
  obtain ⟨x0, x1, x2, x3, x4, x5, x6, x7⟩ := (HA.out.1.below hc3).cells
  obtain ⟨y0, y1, y2, y3, y4, y5, y6, y7⟩ := (HA.out.2.1.below hc3).cells
  have f1 : ∀ j, w3.frozen? ⟨w.heap.size + 1, j, none⟩ = false := fun j => has_free (HA.out.2.1.below hc3) j
  have HC3 := Lib.hid hc3
  clear hb3 hc3
  go_upto_region 9 with fail
  go_cut [] (fun wx => Ran0 w p n f ⟨kg, ko, kn, kd, kc, kt⟩ wx)
  case first =>
    go_wp2_with fail
    refine (rtwin p (.slice q n cap) n f ⟨kg, ko, kn, kd, kc, kt⟩ _ (HJ.out.below HB3.out) (by have := HOK.out.2.1; omega)).mono ?_
    rintro e w4 ⟨x, rfl, s4, c4, rfl, ho4, hb4⟩
    have hc4 := bnext HC3.out hb4
    have HP := Lib.hid (Ran0.made (HA.out.1.below hc4) (HA.out.2.1.below hc4) (own_base2 ho4 (show w.heap.size + 2 ≤ w3.heap.size from by have := HC3.out.size; have := HA.out.2.2; omega)) (bnext HB3.out hb4) h0)
    clear x0 x1 x2 x3 x4 x5 x6 x7 y0 y1 y2 y3 y4 y5 y6 y7 f1
    obtain ⟨x0, x1, x2, x3, x4, x5, x6, x7⟩ := (HA.out.1.below hc4).cells
    obtain ⟨y0, y1, y2, y3, y4, y5, y6, y7⟩ := (HA.out.2.1.below hc4).cells
    have f1 : ∀ j, w4.frozen? ⟨w.heap.size + 1, j, none⟩ = false := fun j => has_free (HA.out.2.1.below hc4) j
    have f0 : ∀ j, w4.frozen? ⟨w.heap.size, j, none⟩ = false := fun j => has_free (HA.out.1.below hc4) j
    clear hb4 hc4 ho4
    go_wp2_with fail
    go_meet
    exact HP.out
  case rest =>
    obtain ⟨g, c4, h1, h2, h3, h4⟩ := hcut
    have hkj := HOK.out.2.2.1 0 h0
    have hkn := HOK.out.2.1
    obtain ⟨⟨_, ho1, hz3⟩, hd1, hd2, hd3⟩ := (okA_mk _ _ _ _ _ _).1 HOK.out.2.2.2
    have ho2 : 0 ≤ ko := by omega
    have ho3 : ko < 1073741824 := by omega
    obtain ⟨b0, b1, b2, b3⟩ := jbL_at f h0
    have e0 : wc.cell? ⟨g, 0, none⟩ = some (.int .i64 (f 0).l) := (World.ownsRow.cellAt h3 0 (by omega)).trans b0
    have e1 : wc.cell? ⟨g, 1, none⟩ = some (.int .i64 (f 0).c) := (World.ownsRow.cellAt h3 1 (by omega)).trans b1
    have e2 : wc.cell? ⟨g, 2, none⟩ = some (.int .i64 (f 0).a) := (World.ownsRow.cellAt h3 2 (by omega)).trans b2
    have e3 : wc.cell? ⟨g, 3, none⟩ = some (.int .i64 (f 0).d) := (World.ownsRow.cellAt h3 3 (by omega)).trans b3
    have S1 := Lib.hid (fun jb x y => St.ran h1 h2 h3 h4 jb x y)
    obtain ⟨x0, x1, x2, x3, x4, x5, x6, x7⟩ := h1.cells
    have f0 : ∀ j, wc.frozen? ⟨w.heap.size, j, none⟩ = false := fun j => has_free h1 j
    have f2 : ∀ j, wc.frozen? ⟨g, j, none⟩ = false := fun j => World.ownsRow.frozenAt h3 j
    have hgs : w.heap.size + 2 ≤ g ∧ g < wc.heap.size := World.ownsRow.lt h3 g rfl
    obtain ⟨hg1, hg4⟩ := hgs
    have hn0 : (0 : Int) < (n : Int) := by omega
    obtain ⟨jb, hjb⟩ : ∃ jb, jb = f 0 := ⟨_, rfl⟩
    rw [← hjb] at e0 e1 e2 e3 hkj
    obtain ⟨l, c, a, d⟩ := jb
    have HF0 := Lib.hid (show f 0 = ⟨l, c, a, d⟩ from hjb.symm)
    have HNC := Lib.hid (show n ≤ c4 from by obtain ⟨_, _, e, h, _⟩ := own_block2 h3 h0; cases e; exact h)
    dsimp only at e0 e1 e2 e3
    clear hjb
    obtain ⟨⟨l1, l2⟩, ⟨c1', c2'⟩, ⟨a1', a2'⟩, d1', d2'⟩ := (okJ_mk _ _ _ _).1 hkj
    have hsl : w.heap.size < wc.heap.size := by omega
    have hsl1 : w.heap.size + 1 < wc.heap.size := by omega
    clear h1 h2 h3 h4 b0 b1 b2 b3 hkj ho1 hz3
    by_cases hc0 : 0 < c
    · skip
      have S7 := Lib.hid (S1.out ⟨l - 1, c - 1, a, d⟩ (kg + 1) (ko + 1))
      go_upto_region 17 with fail
      go_cut [8] (fun jv wx => ∃ J, jv = .pointer (some ⟨J, 0, none⟩) ∧ St w p (.slice (some ⟨g, 0, none⟩) n c4) ⟨kg + 1, ko + 1, kn, kd, kc, kt⟩ J ⟨l - 1, c - 1, a, d⟩ g n c4 (upd f 0 ⟨l - 1, c - 1, a, d⟩) wx)
      case first =>
        go_wp2_with fail
        go_meet
        exact ⟨_, rfl, S7.out⟩
      case rest =>
        obtain ⟨wc0, rfl, hcut⟩ := hcut
        have S8 := Lib.hid hcut
        obtain ⟨x0, x1, x2, x3, x4, x5, x6, x7⟩ := hcut.t.cells
        obtain ⟨y0, y1, y2, y3, y4, y5, y6, y7⟩ := hcut.r.cells
        obtain ⟨j0, j1, j2, j3⟩ := hcut.j.cells
        have f3 : ∀ j, wc.frozen? ⟨w.heap.size, j, none⟩ = false := fun j => has_free hcut.t j
        have f4 : ∀ j, wc.frozen? ⟨w.heap.size + 1, j, none⟩ = false := fun j => has_free hcut.r j
        have hJl : w.heap.size + 2 ≤ wc0 := hcut.Jl
        have hsw : w.heap.size + 1 < wc.heap.size := has_lt hcut.r
        clear hcut S7 S1 f0 f2 e0 e1 e2 e3
        by_cases q1 : l = 1
        · have q2 : (l - 1 == 0) = true := by simp; omega
          have HRF := Lib.hid (show runF f = fun i => f (i + 1) from if_pos (.inl (by rw [HF0.out]; exact q1)))
          go_wp2_with fail
          all_goals
            apply bodyPost_ret
            · simp [results, Tryz.results60, go_sem, y0, y1, y2, y3, y4, y5, y6, y7]
              exact rfl
            · rfl
            · rw [HF0.out]
              refine ⟨_, ret_run (by unfold runW; dsimp only; (repeat' split) <;> omega) (by unfold runL; dsimp only; (repeat' split) <;> omega), ?_⟩
              have hK0 := HNC.out
              first
                | (refine task_run2 (ac_eq rfl rfl rfl ?_ ?_ ?_) ?_ (fun i hi => rfl) (jobs_none2 _ _ _ _ (runF f) (by omega)) ?_)
                | (refine task_run2 (ac_eq rfl rfl rfl ?_ ?_ ?_) ?_ (fun i hi => ?_) (jobs_tail2 (B := w.heap.size + 2) (F := upd f 0 ⟨l - 1, c - 1, a, d⟩) ?_ (by omega)) ?_)
                | (refine task_run2 (ac_eq rfl rfl rfl ?_ ?_ ?_) ?_ (fun i hi => ?_) (own_jobs2 (B := w.heap.size + 2) (f := upd f 0 ⟨l - 1, c - 1, a, d⟩) ?_ (by omega)) ?_)
              all_goals first
                | (dsimp only; (repeat' split) <;> omega)
                | (unfold runN; dsimp only; (repeat' split) <;> omega)
                | (rw [HRF.out]; done)
                | (rw [HRF.out]; exact upd_ne _ (by omega))
                | (refine own_low ?_ _ _ (by first | (simp; done) | (simp; omega)); repeat (first | (with_reducible exact S8.out.row) | refine own_low ?_ _ _ (by first | (simp; done) | (simp; omega))))
                | (repeat (first | (with_reducible exact S8.out.below) | refine below_low ?_ _ _ (by first | (simp; done) | (simp; omega))))
        · have q2 : (l - 1 == 0) = false := by simp; omega
          by_cases q3 : c = 1
          · have q4 : (c - 1 == 0) = true := by simp; omega
            have HRF := Lib.hid (show runF f = fun i => f (i + 1) from if_pos (.inr (by rw [HF0.out]; exact q3)))
            go_wp2_with fail
            all_goals
              apply bodyPost_ret
              · simp [results, Tryz.results60, go_sem, y0, y1, y2, y3, y4, y5, y6, y7]
                exact rfl
              · rfl
              · rw [HF0.out]
                refine ⟨_, ret_run (by unfold runW; dsimp only; (repeat' split) <;> omega) (by unfold runL; dsimp only; (repeat' split) <;> omega), ?_⟩
                have hK0 := HNC.out
                first
                  | (refine task_run2 (ac_eq rfl rfl rfl ?_ ?_ ?_) ?_ (fun i hi => rfl) (jobs_none2 _ _ _ _ (runF f) (by omega)) ?_)
                  | (refine task_run2 (ac_eq rfl rfl rfl ?_ ?_ ?_) ?_ (fun i hi => ?_) (jobs_tail2 (B := w.heap.size + 2) (F := upd f 0 ⟨l - 1, c - 1, a, d⟩) ?_ (by omega)) ?_)
                  | (refine task_run2 (ac_eq rfl rfl rfl ?_ ?_ ?_) ?_ (fun i hi => ?_) (own_jobs2 (B := w.heap.size + 2) (f := upd f 0 ⟨l - 1, c - 1, a, d⟩) ?_ (by omega)) ?_)
                all_goals first
                  | (dsimp only; (repeat' split) <;> omega)
                  | (unfold runN; dsimp only; (repeat' split) <;> omega)
                  | (rw [HRF.out]; done)
                  | (rw [HRF.out]; exact upd_ne _ (by omega))
                  | (refine own_low ?_ _ _ (by first | (simp; done) | (simp; omega)); repeat (first | (with_reducible exact S8.out.row) | refine own_low ?_ _ _ (by first | (simp; done) | (simp; omega))))
                  | (repeat (first | (with_reducible exact S8.out.below) | refine below_low ?_ _ _ (by first | (simp; done) | (simp; omega))))
          · have q4 : (c - 1 == 0) = false := by simp; omega
            have HRF := Lib.hid (show runF f = upd f 0 ⟨l - 1, c - 1, a, d⟩ from by
              unfold runF
              rw [HF0.out, if_neg (by dsimp only; omega)]
              unfold runJ
              dsimp only
              rw [if_pos hc0])
            go_wp2_with fail
            all_goals
              apply bodyPost_ret
              · simp [results, Tryz.results60, go_sem, y0, y1, y2, y3, y4, y5, y6, y7]
                exact rfl
              · rfl
              · rw [HF0.out]
                refine ⟨_, ret_run (by unfold runW; dsimp only; (repeat' split) <;> omega) (by unfold runL; dsimp only; (repeat' split) <;> omega), ?_⟩
                have hK0 := HNC.out
                first
                  | (refine task_run2 (ac_eq rfl rfl rfl ?_ ?_ ?_) ?_ (fun i hi => rfl) (jobs_none2 _ _ _ _ (runF f) (by omega)) ?_)
                  | (refine task_run2 (ac_eq rfl rfl rfl ?_ ?_ ?_) ?_ (fun i hi => ?_) (jobs_tail2 (B := w.heap.size + 2) (F := upd f 0 ⟨l - 1, c - 1, a, d⟩) ?_ (by omega)) ?_)
                  | (refine task_run2 (ac_eq rfl rfl rfl ?_ ?_ ?_) ?_ (fun i hi => ?_) (own_jobs2 (B := w.heap.size + 2) (f := upd f 0 ⟨l - 1, c - 1, a, d⟩) ?_ (by omega)) ?_)
                all_goals first
                  | (dsimp only; (repeat' split) <;> omega)
                  | (unfold runN; dsimp only; (repeat' split) <;> omega)
                  | (rw [HRF.out]; done)
                  | (rw [HRF.out]; exact upd_ne _ (by omega))
                  | (refine own_low ?_ _ _ (by first | (simp; done) | (simp; omega)); repeat (first | (with_reducible exact S8.out.row) | refine own_low ?_ _ _ (by first | (simp; done) | (simp; omega))))
                  | (repeat (first | (with_reducible exact S8.out.below) | refine below_low ?_ _ _ (by first | (simp; done) | (simp; omega))))
    · have S7 := Lib.hid (S1.out ⟨l - 1, c, a, d⟩ (kg + 1) (ko + 1))
      go_upto_region 17 with fail
      go_cut [8] (fun jv wx => ∃ J, jv = .pointer (some ⟨J, 0, none⟩) ∧ St w p (.slice (some ⟨g, 0, none⟩) n c4) ⟨kg + 1, ko + 1, kn, kd, kc, kt⟩ J ⟨l - 1, c, a, d⟩ g n c4 (upd f 0 ⟨l - 1, c, a, d⟩) wx)
      case first =>
        go_wp2_with fail
        go_meet
        exact ⟨_, rfl, S7.out⟩
      case rest =>
        obtain ⟨wc0, rfl, hcut⟩ := hcut
        have S8 := Lib.hid hcut
        obtain ⟨x0, x1, x2, x3, x4, x5, x6, x7⟩ := hcut.t.cells
        obtain ⟨y0, y1, y2, y3, y4, y5, y6, y7⟩ := hcut.r.cells
        obtain ⟨j0, j1, j2, j3⟩ := hcut.j.cells
        have f3 : ∀ j, wc.frozen? ⟨w.heap.size, j, none⟩ = false := fun j => has_free hcut.t j
        have f4 : ∀ j, wc.frozen? ⟨w.heap.size + 1, j, none⟩ = false := fun j => has_free hcut.r j
        have hJl : w.heap.size + 2 ≤ wc0 := hcut.Jl
        have hsw : w.heap.size + 1 < wc.heap.size := has_lt hcut.r
        clear hcut S7 S1 f0 f2 e0 e1 e2 e3
        by_cases q1 : l = 1
        · have q2 : (l - 1 == 0) = true := by simp; omega
          have HRF := Lib.hid (show runF f = fun i => f (i + 1) from if_pos (.inl (by rw [HF0.out]; exact q1)))
          go_wp2_with fail
          all_goals
            apply bodyPost_ret
            · simp [results, Tryz.results60, go_sem, y0, y1, y2, y3, y4, y5, y6, y7]
              exact rfl
            · rfl
            · rw [HF0.out]
              refine ⟨_, ret_run (by unfold runW; dsimp only; (repeat' split) <;> omega) (by unfold runL; dsimp only; (repeat' split) <;> omega), ?_⟩
              have hK0 := HNC.out
              first
                | (refine task_run2 (ac_eq rfl rfl rfl ?_ ?_ ?_) ?_ (fun i hi => rfl) (jobs_none2 _ _ _ _ (runF f) (by omega)) ?_)
                | (refine task_run2 (ac_eq rfl rfl rfl ?_ ?_ ?_) ?_ (fun i hi => ?_) (jobs_tail2 (B := w.heap.size + 2) (F := upd f 0 ⟨l - 1, c, a, d⟩) ?_ (by omega)) ?_)
                | (refine task_run2 (ac_eq rfl rfl rfl ?_ ?_ ?_) ?_ (fun i hi => ?_) (own_jobs2 (B := w.heap.size + 2) (f := upd f 0 ⟨l - 1, c, a, d⟩) ?_ (by omega)) ?_)
              all_goals first
                | (dsimp only; (repeat' split) <;> omega)
                | (unfold runN; dsimp only; (repeat' split) <;> omega)
                | (rw [HRF.out]; done)
                | (rw [HRF.out]; exact upd_ne _ (by omega))
                | (refine own_low ?_ _ _ (by first | (simp; done) | (simp; omega)); repeat (first | (with_reducible exact S8.out.row) | refine own_low ?_ _ _ (by first | (simp; done) | (simp; omega))))
                | (repeat (first | (with_reducible exact S8.out.below) | refine below_low ?_ _ _ (by first | (simp; done) | (simp; omega))))
        · have q2 : (l - 1 == 0) = false := by simp; omega
          have HRF := Lib.hid (show runF f = upd f 0 ⟨l - 1, c, a, d⟩ from by
              unfold runF
              rw [HF0.out, if_neg (by dsimp only; omega)]
              unfold runJ
              dsimp only
              rw [if_neg hc0])
          go_wp2_with fail
          all_goals
            apply bodyPost_ret
            · simp [results, Tryz.results60, go_sem, y0, y1, y2, y3, y4, y5, y6, y7]
              exact rfl
            · rfl
            · rw [HF0.out]
              refine ⟨_, ret_run (by unfold runW; dsimp only; (repeat' split) <;> omega) (by unfold runL; dsimp only; (repeat' split) <;> omega), ?_⟩
              have hK0 := HNC.out
              first
                | (refine task_run2 (ac_eq rfl rfl rfl ?_ ?_ ?_) ?_ (fun i hi => rfl) (jobs_none2 _ _ _ _ (runF f) (by omega)) ?_)
                | (refine task_run2 (ac_eq rfl rfl rfl ?_ ?_ ?_) ?_ (fun i hi => ?_) (jobs_tail2 (B := w.heap.size + 2) (F := upd f 0 ⟨l - 1, c, a, d⟩) ?_ (by omega)) ?_)
                | (refine task_run2 (ac_eq rfl rfl rfl ?_ ?_ ?_) ?_ (fun i hi => ?_) (own_jobs2 (B := w.heap.size + 2) (f := upd f 0 ⟨l - 1, c, a, d⟩) ?_ (by omega)) ?_)
              all_goals first
                | (dsimp only; (repeat' split) <;> omega)
                | (unfold runN; dsimp only; (repeat' split) <;> omega)
                | (rw [HRF.out]; done)
                | (rw [HRF.out]; exact upd_ne _ (by omega))
                | (refine own_low ?_ _ _ (by first | (simp; done) | (simp; omega)); repeat (first | (with_reducible exact S8.out.row) | refine own_low ?_ _ _ (by first | (simp; done) | (simp; omega))))
                | (repeat (first | (with_reducible exact S8.out.below) | refine below_low ?_ _ _ (by first | (simp; done) | (simp; omega))))
/-- Run, every way. -/
theorem rrun_any2 (p : Int) (s : Value) (n : Nat) (f : Nat → Jb) (k : Ac) (now : Int) (w : World) (h : Jobs w s n f) :
    Calls Tryz.prog 60 #[tV p s k, .int .i64 now] w fun e w' => ∃ x, e = .returned (.tuple #[x, .int .i64 (if runE p n f k now = 0 then runW (f 0) else 0), .int .i64 (if runE p n f k now = 0 then runL (f 0) now else 0), .int .i64 (runE p n f k now)]) ∧
      TaskR2 w (if runE p n f k now = 0 then p else 0) (if runE p n f k now = 0 then runN n (f 0) else 0) (runF f) (if runE p n f k now = 0 then runK k (f 0) now else kZ) x w' := by
  by_cases hv : okT p n f k
  · by_cases hn : 0 ≤ now ∧ now < 1073741824
    · by_cases h0 : n = 0
      · have hE : runE p n f k now = 50 := by unfold runE; rw [if_neg (fun h => h hv), if_neg (fun h => h hn), if_pos h0]
        rw [hE]
        exact (rrun_none p s n f k now w h hv hn h0).mono fun e w' ⟨he, hb⟩ => ⟨_, he, zero_taskR2 _ hb⟩
      · by_cases hg : k.g = 1073741824
        · have hE : runE p n f k now = 60 := by unfold runE; rw [if_neg (fun h => h hv), if_neg (fun h => h hn), if_neg h0, if_pos hg]
          rw [hE]
          exact (rrun_time p s n f k now w h hv hn (by omega) hg).mono fun e w' ⟨he, hb⟩ => ⟨_, he, zero_taskR2 _ hb⟩
        · have hE : runE p n f k now = 0 := by unfold runE; rw [if_neg (fun h => h hv), if_neg (fun h => h hn), if_neg h0, if_neg hg]
          rw [hE]
          have hk := hv.2.2.2.1.1.2
          exact (rrun_ok2 p s n f k now w h hv hn (by omega) (by omega)).mono fun e w' ⟨x, he, hb⟩ => ⟨x, he, hb⟩
    · have hE : runE p n f k now = 1 := by unfold runE; rw [if_neg (fun h => h hv), if_pos hn]
      rw [hE]
      by_cases h1 : now < 0
      · exact (rrun_arg1 p s n f k now w h hv h1).mono fun e w' ⟨he, hb⟩ => ⟨_, he, zero_taskR2 _ hb⟩
      · exact (rrun_arg2 p s n f k now w h hv h1 (by omega)).mono fun e w' ⟨he, hb⟩ => ⟨_, he, zero_taskR2 _ hb⟩
  · have hE : runE p n f k now = 270 := if_pos hv
    rw [hE]
    exact (rrun_state p s n f k now w h hv).mono fun e w' ⟨he, hb⟩ => ⟨_, he, zero_taskR2 _ hb⟩
end Go.Proofs.YthbkinopgialmaaGreatDoor
/- The document's own leaf: Offer; no condition but those that each row names. -/
namespace Go.Proofs.YthbkinopgialmaaGreatDoor
open Go.RowKit Tsk

/-- What Offer answers. -/
def OffR (X : Nat → Prop) (w : World) (A' : Tab) (T' : Nat → Tk) (h m l : Int) (e : Ending) (w' : World) : Prop := ∃ gs ts ls ks, e = .returned (.tuple #[lv 2 gs ts ls ks, .int .i64 h, .int .i64 m, .int .i64 l]) ∧ DL X w' A' T' gs ts ls ks ∧ Below w.heap.size w w'
set_option maxHeartbeats 4000000 in
set_option maxRecDepth 100000 in
theorem roffer_none13 (X : Nat → Prop) (A : Tab) (T : Nat → Tk) (hg : LGood A T) (gs ts ls ks : Value) (w : World) (h : DL X w A T gs ts ls ks) (now : Int) (hr : rdy A T < 0) :
    Calls Tryz.prog 24 #[lv 2 gs ts ls ks, .int .i64 now] w (OffR X w A T 0 0 0) := by
  have HDL := Lib.hid h
  have HFI := Lib.hid (fun W (hb : Below w.heap.size w W) => rfirst X A T hg gs ts ls ks W (h.below hb))
  rw [hg.kind] at HFI
  obtain ⟨⟨p1, n1, c1, p2, n2, c2, p3, n3, c3, rfl, rfl, rfl⟩, pk, ck, rfl⟩ := sl5 h
  obtain ⟨WA, hWA⟩ : ∃ WA, WA = (w.alloc (.cells #[.int .i64 2, .slice p1 n1 c1, .slice p2 n2 c2, .slice p3 n3 c3, .slice pk 8 ck] LT)).alloc (.cells #[.int .i64 0, .slice none 0 0, .slice none 0 0, .slice none 0 0, .slice none 0 0] LT) := ⟨_, rfl⟩
  have HB := Lib.hid (show Below w.heap.size w WA from by rw [hWA]; exact ((Below.refl _ _).alloc (Nat.le_refl _) _).alloc (by simp) _)
  have HT := Lib.hid (show HasL WA w.heap.size 2 (.slice p1 n1 c1) (.slice p2 n2 c2) (.slice p3 n3 c3) (.slice pk 8 ck) ∧ HasL WA (w.heap.size + 1) 0 (.slice none 0 0) (.slice none 0 0) (.slice none 0 0) (.slice none 0 0) from by rw [hWA]; exact ⟨has_old (has_new _ _ _ rfl) _, has_new _ _ _ (by simp)⟩)
  have HW := Lib.hid hWA
  have g1 : decide (rdy A T < 0) = true := decide_eq_true hr
  generalize rdy A T = r at *
  clear hWA h hg hr
  go_enter Tryz.func24, Tryz.ntmps24
  go_upto_region 1 with fail
  rw [← HW.out]
  obtain ⟨a0, a1, a2, a3, a4⟩ := HT.out.1.cells
  go_wp2_with fail
  refine (HFI.out _ HB.out).mono ?_
  rintro e w1 ⟨rfl, hb1⟩
  have HB1 := Lib.hid (bnext HB.out hb1)
  have HT1 := Lib.hid (HT.out.1.below hb1)
  have HT2 := Lib.hid (HT.out.2.below hb1)
  clear a0 a1 a2 a3 a4 hb1
  obtain ⟨a0, a1, a2, a3, a4⟩ := HT1.out.cells
  obtain ⟨y0, y1, y2, y3, y4⟩ := HT2.out.cells
  have fr := fun j => has_free HT2.out j
  go_wp2_with fail
  refine bodyPost_ret (v := .tuple #[lv 2 (.slice p1 n1 c1) (.slice p2 n2 c2) (.slice p3 n3 c3) (.slice pk 8 ck), .int .i64 0, .int .i64 0, .int .i64 0]) (by simp [results, Tryz.results24, go_sem, y0, y1, y2, y3, y4]) rfl ?_
  have hbel := below5 HB1.out (g := w.heap.size + 1) (by omega) (.int .i64 2) (.slice p1 n1 c1) (.slice p2 n2 c2) (.slice p3 n3 c3) (.slice pk 8 ck)
  exact ⟨_, _, _, _, rfl, HDL.out.below hbel, hbel⟩
set_option maxHeartbeats 4000000 in
set_option maxRecDepth 100000 in
theorem roffer_no13 (X : Nat → Prop) (A : Tab) (T : Nat → Tk) (hg : LGood A T) (gs ts ls ks : Value) (w : World) (h : DL X w A T gs ts ls ks) (hX : ∀ x, X x → x < w.heap.size) (now : Int) (i : Nat) (hr : rdy A T = i) (hi : i < 8) (hti0 : A.t i = true) (hE : runE (T i).p (T i).n (T i).f (T i).k now ≠ 0) :
    Calls Tryz.prog 24 #[lv 2 gs ts ls ks, .int .i64 now] w (OffR X w A T 0 0 0) := by
  have HDL := Lib.hid h
  obtain ⟨X2, hX2⟩ : ∃ X2 : Nat → Prop, X2 = fun x => X x ∨ x = w.heap.size ∨ x = w.heap.size + 1 := ⟨_, rfl⟩
  have hD2 : DL X2 w A T gs ts ls ks := h.mono (fun x hx hy => by rw [hX2] at hy; rcases hy with hy | hy | hy; exact hy; omega; omega)
  have HX2 := Lib.hid (show ∀ x, X2 x → x < w.heap.size + 2 from fun x hx => by rw [hX2] at hx; rcases hx with hx | hx | hx; have := hX x hx; omega; omega; omega)
  have HX2b := Lib.hid (show (∀ x, X x → X2 x) ∧ X2 w.heap.size ∧ X2 (w.heap.size + 1) from by rw [hX2]; exact ⟨fun x hx => .inl hx, .inr (.inl rfl), .inr (.inr rfl)⟩)
  have HFI := Lib.hid (fun W (hb : Below w.heap.size w W) => rfirst X A T hg gs ts ls ks W (h.below hb))
  have HHA := Lib.hid (fun W (hb : Below w.heap.size w W) => rhandle X A T hg gs ts ls ks W (h.below hb) i hti0)
  rw [hg.kind] at HFI HHA
  rw [hr] at HFI
  obtain ⟨sl, hTX⟩ := hD2.tk
  have HRT := Lib.hid hD2.rt
  have HS3 := Lib.hid h.rt.sl3
  have HTMU := Lib.hid (fun p s n f k => tm_upd T sl i p s n f k sN)
  have HPU := Lib.hid (fun W (hb : Below w.heap.size w W) (hs : w.heap.size + 2 ≤ W.heap.size) p s n f k hj => rput X2 W (fun x hx => Nat.lt_of_lt_of_le (HX2.out x hx) hs) 2 gs ts ls ks HS3.out (tm T sl) (hTX.below hb) i hi p s n f k hj)
  have hok := hg.ok i
  obtain ⟨⟨p1, n1, c1, p2, n2, c2, p3, n3, c3, rfl, rfl, rfl⟩, pk, ck, rfl⟩ := sl5 h
  obtain ⟨_, _, e, _, hc⟩ := hTX.tk
  simp only [Value.slice.injEq] at e
  obtain ⟨bk, ok, e2, d0, d1, d2, d3, d4, d5, d6, d7, hJ0⟩ := hc i hi
  have e3 : pk = some ⟨bk, ok, none⟩ := by rw [e.1]; exact e2
  subst e3
  have hbk : bk < w.heap.size := cell_lt d0
  have HJ := Lib.hid hJ0
  obtain ⟨q0, cq0, hq0, _⟩ := hJ0
  dsimp only [tm] at d0 d1 d2 d3 d4 d5 d6 d7 hq0 HJ
  rw [hq0] at d1 HJ
  obtain ⟨t, hti⟩ : ∃ t, t = T i := ⟨_, rfl⟩
  rw [← hti] at d0 d1 d2 d3 d4 d5 d6 d7 HJ hok hE
  obtain ⟨tp, ts', tn, tf, ⟨kg, ko, kn, kd, kc, kt⟩⟩ := t
  dsimp only at d0 d1 d2 d3 d4 d5 d6 d7 HJ hE
  have hn8 : tn ≤ 8 := hok.2.1
  have HRU := Lib.hid (fun W (hb : Below w.heap.size w W) => rrun_any2 tp (.slice q0 tn cq0) tn tf ⟨kg, ko, kn, kd, kc, kt⟩ now W (HJ.out.below hb))
  have HXC := Lib.hid (fun W (hb : Below w.heap.size w W) => show _ ∧ _ ∧ _ ∧ _ ∧ _ ∧ _ ∧ _ ∧ _ from ⟨(hb.cell (p := ⟨bk, ok + i * 8, none⟩) hbk).trans d0, (hb.cell (p := ⟨bk, ok + i * 8 + 1, none⟩) hbk).trans d1, (hb.cell (p := ⟨bk, ok + i * 8 + 2, none⟩) hbk).trans d2, (hb.cell (p := ⟨bk, ok + i * 8 + 3, none⟩) hbk).trans d3, (hb.cell (p := ⟨bk, ok + i * 8 + 4, none⟩) hbk).trans d4, (hb.cell (p := ⟨bk, ok + i * 8 + 5, none⟩) hbk).trans d5, (hb.cell (p := ⟨bk, ok + i * 8 + 6, none⟩) hbk).trans d6, (hb.cell (p := ⟨bk, ok + i * 8 + 7, none⟩) hbk).trans d7⟩)
  obtain ⟨WA, hWA⟩ : ∃ WA, WA = (w.alloc (.cells #[.int .i64 2, .slice p1 n1 c1, .slice p2 n2 c2, .slice p3 n3 c3, .slice (some ⟨bk, ok, none⟩) 8 ck] LT)).alloc (.cells #[.int .i64 0, .slice none 0 0, .slice none 0 0, .slice none 0 0, .slice none 0 0] LT) := ⟨_, rfl⟩
  have HB := Lib.hid (show Below w.heap.size w WA ∧ WA.heap.size = w.heap.size + 2 from by rw [hWA]; exact ⟨((Below.refl _ _).alloc (Nat.le_refl _) _).alloc (by simp) _, by simp⟩)
  have HT := Lib.hid (show HasL WA w.heap.size 2 (.slice p1 n1 c1) (.slice p2 n2 c2) (.slice p3 n3 c3) (.slice (some ⟨bk, ok, none⟩) 8 ck) ∧ HasL WA (w.heap.size + 1) 0 (.slice none 0 0) (.slice none 0 0) (.slice none 0 0) (.slice none 0 0) from by rw [hWA]; exact ⟨has_old (has_new _ _ _ rfl) _, has_new _ _ _ (by simp)⟩)
  have HW := Lib.hid hWA
  have z0 : (0 : Int) ≤ (i : Int) := by omega
  have z1 : (i : Int) < 8 := by omega
  have z2 : decide ((i : Int) < 0) = false := decide_eq_false (by omega)
  clear hWA h hg hX2 hX hD2 hTX hc e e2 hti d0 d1 d2 d3 d4 d5 d6 d7 hr hti0 hi hq0 hok hbk
  obtain ⟨E, hEE⟩ : ∃ E, E = runE tp tn tf ⟨kg, ko, kn, kd, kc, kt⟩ now := ⟨_, rfl⟩
  rw [← hEE] at HRU hE
  clear hEE
  simp only [if_neg hE] at HRU
  have g1 : (E != 0) = true := by simpa using hE
  clear hE
  go_enter Tryz.func24, Tryz.ntmps24
  go_upto_region 1 with fail
  rw [← HW.out]
  obtain ⟨a0, a1, a2, a3, a4⟩ := HT.out.1.cells
  go_wp2_with fail
  refine (HFI.out _ HB.out.1).mono ?_
  rintro e w1 ⟨rfl, hb1⟩
  have hs1 := hb1.size
  have HB1 := Lib.hid (show Below w.heap.size w w1 ∧ w.heap.size + 2 ≤ w1.heap.size from ⟨bnext HB.out.1 hb1, by have := HB.out.2; omega⟩)
  have HK1 := Lib.hid (show HasL w1 w.heap.size 2 (.slice p1 n1 c1) (.slice p2 n2 c2) (.slice p3 n3 c3) (.slice (some ⟨bk, ok, none⟩) 8 ck) ∧ HasL w1 (w.heap.size + 1) 0 (.slice none 0 0) (.slice none 0 0) (.slice none 0 0) (.slice none 0 0) from ⟨HT.out.1.below hb1, HT.out.2.below hb1⟩)
  clear hb1 hs1 a0 a1 a2 a3 a4
  obtain ⟨a0, a1, a2, a3, a4⟩ := HK1.out.1.cells
  obtain ⟨d0, d1, d2, d3, d4, d5, d6, d7⟩ := HXC.out w1 HB1.out.1
  go_wp2_with fail
  refine (HRU.out w1 HB1.out.1).mono ?_
  rintro e w2 ⟨xx, rfl, s2, rfl, hj2, hb2⟩
  obtain ⟨⟨r2, cr2, rfl, _⟩, _⟩ := id hj2
  have hs2 := hb2.size
  have HB2 := Lib.hid (bnext HB1.out.1 hb2)
  have HK2 := Lib.hid (show HasL w2 w.heap.size 2 (.slice p1 n1 c1) (.slice p2 n2 c2) (.slice p3 n3 c3) (.slice (some ⟨bk, ok, none⟩) 8 ck) ∧ HasL w2 (w.heap.size + 1) 0 (.slice none 0 0) (.slice none 0 0) (.slice none 0 0) (.slice none 0 0) from ⟨HK1.out.1.below hb2, HK1.out.2.below hb2⟩)
  have hl : w.heap.size + 1 < w2.heap.size := has_lt HK2.out.2
  have hl0 : w.heap.size < w2.heap.size := by omega
  have HL2 := Lib.hid hl
  clear hb2 hs2 hj2 a0 a1 a2 a3 a4 d0 d1 d2 d3 d4 d5 d6 d7
  obtain ⟨a0, a1, a2, a3, a4⟩ := HK2.out.1.cells
  obtain ⟨y0, y1, y2, y3, y4⟩ := HK2.out.2.cells
  have fr := fun j => has_free HK2.out.2 j
  go_wp2_with fail
  refine bodyPost_ret (v := .tuple #[lv 2 (.slice p1 n1 c1) (.slice p2 n2 c2) (.slice p3 n3 c3) (.slice (some ⟨bk, ok, none⟩) 8 ck), .int .i64 0, .int .i64 0, .int .i64 0]) (by simp [results, Tryz.results24, go_sem, y0, y1, y2, y3, y4, hl]) rfl ?_
  have hbel := (below5 HB2.out (g := w.heap.size + 1) (by omega) (.int .i64 2) (.slice p1 n1 c1) (.slice p2 n2 c2) (.slice p3 n3 c3) (.slice (some ⟨bk, ok, none⟩) 8 ck)).alloc (by have := HL2.out; simp [World.setCell]; omega) (.cells #[.int .i64 0, .slice r2 0 cr2, .int .i64 0, .int .i64 0, .int .i64 0, .int .i64 0, .int .i64 0, .int .i64 0] KT)
  exact ⟨_, _, _, _, rfl, HDL.out.below hbel, hbel⟩
set_option maxHeartbeats 8000000 in
set_option maxRecDepth 100000 in
theorem roffer_yes13 (X : Nat → Prop) (A : Tab) (T : Nat → Tk) (hg : LGood A T) (gs ts ls ks : Value) (w : World) (h : DL X w A T gs ts ls ks) (hX : ∀ x, X x → x < w.heap.size) (now : Int) (i : Nat) (hr : rdy A T = i) (hi : i < 8) (hti0 : A.t i = true) (hE : runE (T i).p (T i).n (T i).f (T i).k now = 0) :
    Calls Tryz.prog 24 #[lv 2 gs ts ls ks, .int .i64 now] w (OffR X w A (upd T i (tkRun (T i) sN now)) (A.hd i) (markS (runW ((T i).f 0))) (runL ((T i).f 0) now)) := by
  have HDL := Lib.hid h
  obtain ⟨X2, hX2⟩ : ∃ X2 : Nat → Prop, X2 = fun x => X x ∨ x = w.heap.size ∨ x = w.heap.size + 1 := ⟨_, rfl⟩
  have hD2 : DL X2 w A T gs ts ls ks := h.mono (fun x hx hy => by rw [hX2] at hy; rcases hy with hy | hy | hy; exact hy; omega; omega)
  have HX2 := Lib.hid (show ∀ x, X2 x → x < w.heap.size + 2 from fun x hx => by rw [hX2] at hx; rcases hx with hx | hx | hx; have := hX x hx; omega; omega; omega)
  have HX2b := Lib.hid (show (∀ x, X x → X2 x) ∧ X2 w.heap.size ∧ X2 (w.heap.size + 1) from by rw [hX2]; exact ⟨fun x hx => .inl hx, .inr (.inl rfl), .inr (.inr rfl)⟩)
  have HFI := Lib.hid (fun W (hb : Below w.heap.size w W) => rfirst X A T hg gs ts ls ks W (h.below hb))
  have HHA := Lib.hid (fun W (hb : Below w.heap.size w W) => rhandle X A T hg gs ts ls ks W (h.below hb) i hti0)
  rw [hg.kind] at HFI HHA
  rw [hr] at HFI
  obtain ⟨sl, hTX⟩ := hD2.tk
  have HRT := Lib.hid hD2.rt
  have HS3 := Lib.hid h.rt.sl3
  have HTMU := Lib.hid (fun p s n f k => tm_upd T sl i p s n f k sN)
  have HPU := Lib.hid (fun W (hb : Below w.heap.size w W) (hs : w.heap.size + 2 ≤ W.heap.size) p s n f k hj => rput X2 W (fun x hx => Nat.lt_of_lt_of_le (HX2.out x hx) hs) 2 gs ts ls ks HS3.out (tm T sl) (hTX.below hb) i hi p s n f k hj)
  have hok := hg.ok i
  obtain ⟨⟨p1, n1, c1, p2, n2, c2, p3, n3, c3, rfl, rfl, rfl⟩, pk, ck, rfl⟩ := sl5 h
  obtain ⟨_, _, e, _, hc⟩ := hTX.tk
  simp only [Value.slice.injEq] at e
  obtain ⟨bk, ok, e2, d0, d1, d2, d3, d4, d5, d6, d7, hJ0⟩ := hc i hi
  have e3 : pk = some ⟨bk, ok, none⟩ := by rw [e.1]; exact e2
  subst e3
  have hbk : bk < w.heap.size := cell_lt d0
  have HJ := Lib.hid hJ0
  obtain ⟨q0, cq0, hq0, _⟩ := hJ0
  dsimp only [tm] at d0 d1 d2 d3 d4 d5 d6 d7 hq0 HJ
  rw [hq0] at d1 HJ
  obtain ⟨t, hti⟩ : ∃ t, t = T i := ⟨_, rfl⟩
  rw [← hti] at d0 d1 d2 d3 d4 d5 d6 d7 HJ hok hE ⊢
  obtain ⟨tp, ts', tn, tf, ⟨kg, ko, kn, kd, kc, kt⟩⟩ := t
  dsimp only at d0 d1 d2 d3 d4 d5 d6 d7 HJ hE ⊢
  have hn8 : tn ≤ 8 := hok.2.1
  have HRU := Lib.hid (fun W (hb : Below w.heap.size w W) => rrun_any2 tp (.slice q0 tn cq0) tn tf ⟨kg, ko, kn, kd, kc, kt⟩ now W (HJ.out.below hb))
  have HXC := Lib.hid (fun W (hb : Below w.heap.size w W) => show _ ∧ _ ∧ _ ∧ _ ∧ _ ∧ _ ∧ _ ∧ _ from ⟨(hb.cell (p := ⟨bk, ok + i * 8, none⟩) hbk).trans d0, (hb.cell (p := ⟨bk, ok + i * 8 + 1, none⟩) hbk).trans d1, (hb.cell (p := ⟨bk, ok + i * 8 + 2, none⟩) hbk).trans d2, (hb.cell (p := ⟨bk, ok + i * 8 + 3, none⟩) hbk).trans d3, (hb.cell (p := ⟨bk, ok + i * 8 + 4, none⟩) hbk).trans d4, (hb.cell (p := ⟨bk, ok + i * 8 + 5, none⟩) hbk).trans d5, (hb.cell (p := ⟨bk, ok + i * 8 + 6, none⟩) hbk).trans d6, (hb.cell (p := ⟨bk, ok + i * 8 + 7, none⟩) hbk).trans d7⟩)
  obtain ⟨WA, hWA⟩ : ∃ WA, WA = (w.alloc (.cells #[.int .i64 2, .slice p1 n1 c1, .slice p2 n2 c2, .slice p3 n3 c3, .slice (some ⟨bk, ok, none⟩) 8 ck] LT)).alloc (.cells #[.int .i64 0, .slice none 0 0, .slice none 0 0, .slice none 0 0, .slice none 0 0] LT) := ⟨_, rfl⟩
  have HB := Lib.hid (show Below w.heap.size w WA ∧ WA.heap.size = w.heap.size + 2 from by rw [hWA]; exact ⟨((Below.refl _ _).alloc (Nat.le_refl _) _).alloc (by simp) _, by simp⟩)
  have HT := Lib.hid (show HasL WA w.heap.size 2 (.slice p1 n1 c1) (.slice p2 n2 c2) (.slice p3 n3 c3) (.slice (some ⟨bk, ok, none⟩) 8 ck) ∧ HasL WA (w.heap.size + 1) 0 (.slice none 0 0) (.slice none 0 0) (.slice none 0 0) (.slice none 0 0) from by rw [hWA]; exact ⟨has_old (has_new _ _ _ rfl) _, has_new _ _ _ (by simp)⟩)
  have HW := Lib.hid hWA
  have z0 : (0 : Int) ≤ (i : Int) := by omega
  have z1 : (i : Int) < 8 := by omega
  have z2 : decide ((i : Int) < 0) = false := decide_eq_false (by omega)
  clear hWA h hg hX2 hX hD2 hTX hc e e2 hti d0 d1 d2 d3 d4 d5 d6 d7 hr hti0 hi hq0 hok hbk
  rw [hE] at HRU
  simp only [if_true] at HRU
  unfold tkRun
  dsimp only
  clear hE
  generalize runL (tf 0) now = lt at *
  obtain ⟨kk, hkk⟩ : ∃ kk, kk = runK ⟨kg, ko, kn, kd, kc, kt⟩ (tf 0) now := ⟨_, rfl⟩
  rw [← hkk] at HRU ⊢
  clear hkk
  obtain ⟨rg, ro, rnn, rd, rc, rt⟩ := kk
  generalize runW (tf 0) = wt at *
  generalize runN tn (tf 0) = rn at *
  generalize runF tf = rf at *
  generalize A.hd i = hx at *
  go_enter Tryz.func24, Tryz.ntmps24
  go_upto_region 1 with fail
  rw [← HW.out]
  obtain ⟨a0, a1, a2, a3, a4⟩ := HT.out.1.cells
  go_wp2_with fail
  refine (HFI.out _ HB.out.1).mono ?_
  rintro e w1 ⟨rfl, hb1⟩
  have hs1 := hb1.size
  have HB1 := Lib.hid (show Below w.heap.size w w1 ∧ w.heap.size + 2 ≤ w1.heap.size from ⟨bnext HB.out.1 hb1, by have := HB.out.2; omega⟩)
  have HK1 := Lib.hid (show HasL w1 w.heap.size 2 (.slice p1 n1 c1) (.slice p2 n2 c2) (.slice p3 n3 c3) (.slice (some ⟨bk, ok, none⟩) 8 ck) ∧ HasL w1 (w.heap.size + 1) 0 (.slice none 0 0) (.slice none 0 0) (.slice none 0 0) (.slice none 0 0) from ⟨HT.out.1.below hb1, HT.out.2.below hb1⟩)
  clear hb1 hs1 a0 a1 a2 a3 a4
  obtain ⟨a0, a1, a2, a3, a4⟩ := HK1.out.1.cells
  obtain ⟨d0, d1, d2, d3, d4, d5, d6, d7⟩ := HXC.out w1 HB1.out.1
  go_wp2_with fail
  refine (HRU.out w1 HB1.out.1).mono ?_
  rintro e w2 ⟨xx, rfl, s2, rfl, hj2, hb2⟩
  obtain ⟨⟨r2, cr2, rfl, _⟩, _⟩ := id hj2
  have hs2 := hb2.size
  obtain ⟨W2, hW2⟩ : ∃ W2, W2 = w2.alloc (.cells #[.int .i64 tp, .slice r2 rn cr2, .int .i64 rg, .int .i64 ro, .int .i64 rnn, .int .i64 rd, .int .i64 rc, .int .i64 rt] KT) := ⟨_, rfl⟩
  have HB2 := Lib.hid (show Below w.heap.size w W2 ∧ w.heap.size + 2 ≤ w2.heap.size ∧ W2.heap.size = w2.heap.size + 1 from by
    have h1 := bnext HB1.out.1 hb2
    have h2 := HB1.out.2
    rw [hW2]
    exact ⟨h1.alloc h1.size _, by omega, by simp⟩)
  have HK2 := Lib.hid (show HasL W2 w.heap.size 2 (.slice p1 n1 c1) (.slice p2 n2 c2) (.slice p3 n3 c3) (.slice (some ⟨bk, ok, none⟩) 8 ck) ∧ HasL W2 (w.heap.size + 1) 0 (.slice none 0 0) (.slice none 0 0) (.slice none 0 0) (.slice none 0 0) ∧ HasT W2 w2.heap.size tp (.slice r2 rn cr2) ⟨rg, ro, rnn, rd, rc, rt⟩ from by
    rw [hW2]; exact ⟨has_old (HK1.out.1.below hb2) _, has_old (HK1.out.2.below hb2) _, hasT_new w2 tp _ ⟨rg, ro, rnn, rd, rc, rt⟩⟩)
  have HJ2 := Lib.hid (show JobsX X2 W2 (.slice r2 rn cr2) rn rf from by
    have h2 := HB1.out.2
    rw [hW2]
    refine JobsX.below ⟨hj2.1, fun a m c e h0 k => ?_⟩ ((Below.refl _ _).alloc (Nat.le_refl _) _)
    have hm : 0 < m := by cases e; exact h0
    have h3 := hj2.2 a m c e hm
    have h4 := HX2.out _ k
    omega)
  have HW2 := Lib.hid hW2
  clear hW2 hb2 hs2 hj2 a0 a1 a2 a3 a4 d0 d1 d2 d3 d4 d5 d6 d7
  go_upto_region 5 with fail
  rw [← HW2.out]
  have HD := Lib.hid (fun W (hb : Below W2.heap.size W2 W) => show _ ∧ _ ∧ _ ∧ ∀ j, W.frozen? ⟨w.heap.size + 1, j, none⟩ = false from ⟨HasL.cells (HK2.out.1.below hb), HasL.cells (HK2.out.2.1.below hb), HasT.cells (HK2.out.2.2.below hb), fun j => has_free (HK2.out.2.1.below hb) j⟩)
  have HPU2 := Lib.hid (fun W (hb : Below W2.heap.size W2 W) => HPU.out W (bnext HB2.out.1 hb) (by have := hb.size; have := HB2.out.2; omega) tp (.slice r2 rn cr2) rn rf ⟨rg, ro, rnn, rd, rc, rt⟩ (HJ2.out.below hb))
  have HHA2 := Lib.hid (fun W (hb : Below W2.heap.size W2 W) => HHA.out W (bnext HB2.out.1 hb))
  unfold PutP at HPU2
  obtain ⟨a0, a1, a2, a3, a4⟩ := HK2.out.1.cells
  obtain ⟨y0, y1, y2, y3, y4⟩ := HK2.out.2.1.cells
  obtain ⟨x0, x1, x2, x3, x4, x5, x6, x7⟩ := HK2.out.2.2.cells
  have hm : (wt = 1 ∧ markS wt = 8) ∨ (wt = 2 ∧ markS wt = 9) ∨ ((wt == 1) = false ∧ (wt == 2) = false ∧ markS wt = 0) := by
    by_cases h1 : wt = 1
    · exact .inl ⟨h1, by unfold markS; rw [if_pos h1]⟩
    · by_cases h2 : wt = 2
      · exact .inr (.inl ⟨h2, by unfold markS; rw [if_neg h1, if_pos h2]⟩)
      · exact .inr (.inr ⟨by simpa using h1, by simpa using h2, by unfold markS; rw [if_neg h1, if_neg h2]⟩)
  go_upto_region 7 with fail
  iterate 8 go_step
  go_cut [13] (fun s13 wx => s13 = .int .i64 (markS wt) ∧ W2 = wx)
  case first =>
    rcases hm with ⟨rfl, hm⟩ | ⟨rfl, hm⟩ | ⟨g1, g2, hm⟩
    all_goals
      have HM := Lib.hid hm
      clear hm
      go_wp2_with fail
      go_meet
      exact ⟨by rw [HM.out], rfl⟩
  case rest =>
    obtain ⟨rfl, rfl⟩ := hcut
    clear hm
    generalize markS wt = mk at *
    go_upto_region 13 with fail
    go_region_law (first
      | (go_simp; go_at_call 61; refine (HHA2.out _ (by first | exact below_drewOne | exact hq3)).mono ?_; rintro e wf ⟨rfl, hqb⟩; have hq2 := bnext (by first | exact below_drewOne | exact hq3) hqb; have HQ3 := Lib.hid hq2; try (have HTP := Lib.hid (HTP.out.below hqb)); obtain ⟨⟨a0, a1, a2, a3, a4⟩, ⟨y0, y1, y2, y3, y4⟩, ⟨x0, x1, x2, x3, x4, x5, x6, x7⟩, fy⟩ := HD.out _ hq2)
      | (go_simp; go_at_call 50; refine (HPU2.out _ (by first | exact below_drewOne | exact hq2)).mono ?_; rintro e wp ⟨ks5, rfl, htp, hqp⟩; have hq3 := bnext (by first | exact below_drewOne | exact hq2) hqp; obtain ⟨pk5, ck5, rfl, _⟩ := id htp.tk; have HTP := Lib.hid htp; have HQ3 := Lib.hid hq3; obtain ⟨⟨a0, a1, a2, a3, a4⟩, ⟨y0, y1, y2, y3, y4⟩, ⟨x0, x1, x2, x3, x4, x5, x6, x7⟩, fy⟩ := HD.out _ hq3))
    all_goals
      go_wp2_with fail
      refine bodyPost_ret (v := .tuple #[lv 2 (.slice p1 n1 c1) (.slice p2 n2 c2) (.slice p3 n3 c3) (.slice pk5 8 ck5), .int .i64 hx, _, .int .i64 lt]) (by simp [results, Tryz.results24, go_sem, y0, y1, y2, y3, y4]; exact rfl) rfl ?_
      have hkp := fun W => keeps5 (Keeps.refl X2 W) HX2b.out.2.2 (.int .i64 2) (.slice p1 n1 c1) (.slice p2 n2 c2) (.slice p3 n3 c3) (.slice pk5 8 ck5)
      exact ⟨_, _, _, _, rfl, DL.mono (X := X2) ⟨((HRT.out.below HB2.out.1).below HQ3.out).keeps (hkp _), _, (TasksX.keeps (by rw [HTMU.out]; exact HTP.out) (hkp _) (fun _ k => k))⟩ (fun x _ hx => HX2b.out.1 x hx), below5 (bnext HB2.out.1 HQ3.out) (by omega) _ _ _ _ _⟩
theorem roffer13 (X : Nat → Prop) (A : Tab) (T : Nat → Tk) (hg : LGood A T) (gs ts ls ks : Value) (w : World) (h : DL X w A T gs ts ls ks) (hX : ∀ x, X x → x < w.heap.size) (now : Int) :
    Calls Tryz.prog 24 #[lv 2 gs ts ls ks, .int .i64 now] w (OffR X w A (offT A T now) (offH A T now) (offM A T now) (offL A T now)) := by
  rcases off_ways A T now with ⟨hr, e1, e2, e3, e4⟩ | ⟨i, hr, hi, ht, _, ⟨hE, e1, e2, e3, e4⟩ | ⟨hE, e1, e2, e3, e4⟩⟩
  · rw [e1, e2, e3, e4]; exact roffer_none13 X A T hg gs ts ls ks w h now hr
  · rw [e1, e2, e3, e4]; exact roffer_no13 X A T hg gs ts ls ks w h hX now i hr hi ht hE
  · rw [e1, e2, e3, e4]; exact roffer_yes13 X A T hg gs ts ls ks w h hX now i hr hi ht hE
end Go.Proofs.YthbkinopgialmaaGreatDoor
