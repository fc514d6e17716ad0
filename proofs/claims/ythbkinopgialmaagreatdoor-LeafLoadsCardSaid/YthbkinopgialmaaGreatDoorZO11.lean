/- Texts of stages 3, 4, 12 and 13 that stand together: ZAlike ZStepT ZPlay ZLdM ZSure ZOpens ZLawPlays; no condition but those that each row names. -/
import Derived.Test.YthbkinopgialmaaGreatDoorZO1
import Derived.Test.YthbkinopgialmaaGreatDoorZO2
import Derived.Test.YthbkinopgialmaaGreatDoorZO7
import Derived.Test.YthbkinopgialmaaGreatDoorZO8
import Derived.Test.YthbkinopgialmaaGreatDoorZO9
import Derived.Test.YthbkinopgialmaaGreatDoorZO10
import Derived.Deep.CutRange
import Derived.Deep.RegionLaw
import Derived.Deep.RegionHeld3
import Derived.OpenShut
import Derived.Deep.Slices
import Derived.ChangeSame
import Derived.ChangeMaps5
import Derived.SizedLaws
import Derived.Lib.SmallJoins
import Derived.Deep.CutBlock
/- The law's own alike of a leaf and the document's leaf: true where both are of one table and one row of tasks; no condition but those that each row names. -/
namespace Go.Proofs.YthbkinopgialmaaGreatDoor
open Go.RowKit Tsk

theorem allPost_shape {S : Nat → Prop} {w w' : World} {A : Tab} {e : Ending} (h : AllPost S w A e w') : ∃ p cap, e = .returned (.slice p A.idxs.length cap) ∧ Lst S w' (.slice p A.idxs.length cap) (ints A.all) ∧ Below w.heap.size w w' := by
  obtain ⟨v, rfl, hl, hb⟩ := h
  have hl' := hl
  obtain ⟨p, cap, rfl, _, _⟩ := hl
  have e1 : (ints A.all).length = A.idxs.length := by rw [ints_len, all_len]
  rw [e1] at hl' ⊢
  exact ⟨p, cap, rfl, hl', hb⟩
/-- The handles that are told, as a slice. -/
def Hnd (w : World) (A : Tab) (pa : Option Addr) : Prop := ∀ j, j < A.idxs.length → ∃ ba oa, pa = some ⟨ba, oa, none⟩ ∧ w.cell? ⟨ba, oa + j, none⟩ = some (.int .i64 (A.hd (A.idxs.getD j 0)))
theorem Hnd.below {w w' : World} {A : Tab} {pa : Option Addr} (h : Hnd w A pa) (hb : Below w.heap.size w w') : Hnd w' A pa := fun j hj => by
  obtain ⟨ba, oa, e, hc⟩ := h j hj
  exact ⟨ba, oa, e, (hb.cell (p := ⟨ba, oa + j, none⟩) (cell_lt hc)).trans hc⟩
theorem lst_hnd {Y : Nat → Prop} {w : World} {A : Tab} {pa : Option Addr} {ca : Nat} (h : Lst Y w (.slice pa A.idxs.length ca) (ints A.all)) : Hnd w A pa := by
  obtain ⟨pa', ca', e, _, hal⟩ := h
  simp only [Value.slice.injEq] at e
  intro j hj
  obtain ⟨ba, oa, e2, _, hca⟩ := hal j _ (all_at hj)
  exact ⟨ba, oa, by rw [e.1]; exact e2, hca⟩
/-- Where alike stands: the document's leaf in its block, all that came before as it was. -/
def AkW (w WA : World) (k : Int) (gs ts ls ks : Value) (W : World) : Prop :=
  W.cell? ⟨w.heap.size, 0, none⟩ = some (.int .i64 k) ∧ W.cell? ⟨w.heap.size, 1, none⟩ = some gs ∧ W.cell? ⟨w.heap.size, 2, none⟩ = some ts ∧ W.cell? ⟨w.heap.size, 3, none⟩ = some ls ∧ W.cell? ⟨w.heap.size, 4, none⟩ = some ks ∧ Below w.heap.size w W ∧ Below WA.heap.size WA W
theorem lst_sh {w : World} {v : Value} {xs : List Value} {m : Nat} (h : Lst (fun _ => False) w v xs) (e : xs.length = m) : ∃ p c, v = .slice p m c ∧ ∀ W, Below w.heap.size w W → ∀ j x, xs[j]? = some x → ∃ b off, p = some ⟨b, off, none⟩ ∧ W.cell? ⟨b, off + j, none⟩ = some x := by
  obtain ⟨p, c, rfl, _, hc⟩ := h
  exact ⟨p, c, by rw [e], fun W hb j x hx => by
    obtain ⟨b, off, e2, _, hcell⟩ := hc j x hx
    exact ⟨b, off, e2, (hb.cell (p := ⟨b, off + j, none⟩) (cell_lt hcell)).trans hcell⟩⟩
/-- A task that was answered, in a block of its own. -/
def UB (wt : World) (tp : Int) (tn : Nat) (tf : Nat → Jb) (k : Ac) (b : Nat) (wx : World) : Prop := ∃ s c, HasT wx b tp (.slice s tn c) k ∧ Jobs wx (.slice s tn c) tn tf ∧ Below wt.heap.size wt wx ∧ wt.heap.size ≤ b
theorem keeps8 {R : Nat → Prop} {g : Nat} {w W : World} (h : Keeps R w W) (hg : R g) (v0 v1 v2 v3 v4 v5 v6 v7 : Value) : Keeps R w ((((((((W.setCell ⟨g, 0, none⟩ v0).setCell ⟨g, 1, none⟩ v1).setCell ⟨g, 2, none⟩ v2).setCell ⟨g, 3, none⟩ v3).setCell ⟨g, 4, none⟩ v4).setCell ⟨g, 5, none⟩ v5).setCell ⟨g, 6, none⟩ v6).setCell ⟨g, 7, none⟩ v7) :=
  (((((((h.setS _ _ hg).setS _ _ hg).setS _ _ hg).setS _ _ hg).setS _ _ hg).setS _ _ hg).setS _ _ hg).setS _ _ hg
theorem UB.a {wt w2 : World} {tp : Int} {tn : Nat} {tf : Nat → Jb} {k : Ac} {s : Option Addr} {c : Nat} {Y : Nat → Prop} (hq : Below wt.drew.heap.size wt.drew w2) (hj : JobsX Y w2 (.slice s tn c) tn tf) : UB wt tp tn tf k w2.heap.size (w2.alloc (.cells #[.int .i64 tp, .slice s tn c, .int .i64 k.g, .int .i64 k.o, .int .i64 k.n, .int .i64 k.d, .int .i64 k.c, .int .i64 k.t] KT)) := by
  have ha : Below w2.heap.size w2 (w2.alloc (.cells #[.int .i64 tp, .slice s tn c, .int .i64 k.g, .int .i64 k.o, .int .i64 k.n, .int .i64 k.d, .int .i64 k.c, .int .i64 k.t] KT)) := (Below.refl _ _).alloc (Nat.le_refl _) _
  have hw : Below wt.heap.size wt w2 := bnext below_drewOne hq
  exact ⟨s, c, hasT_new w2 tp _ k, hj.1.below ha, bnext hw ha, hw.size⟩
theorem UB.b {wt w2 : World} {tp tp0 : Int} {tn : Nat} {tf : Nat → Jb} {k k0 : Ac} {s0 : Value} {s : Option Addr} {c : Nat} {o : Obj} (hq : Below (wt.alloc o).drew.heap.size (wt.alloc o).drew w2) (hT : HasT w2 wt.heap.size tp0 s0 k0) (hj : JobsX (fun x => x = wt.heap.size) w2 (.slice s tn c) tn tf) : UB wt tp tn tf k wt.heap.size ((((((((w2.setCell ⟨wt.heap.size, 0, none⟩ (.int .i64 tp)).setCell ⟨wt.heap.size, 1, none⟩ (.slice s tn c)).setCell ⟨wt.heap.size, 2, none⟩ (.int .i64 k.g)).setCell ⟨wt.heap.size, 3, none⟩ (.int .i64 k.o)).setCell ⟨wt.heap.size, 4, none⟩ (.int .i64 k.n)).setCell ⟨wt.heap.size, 5, none⟩ (.int .i64 k.d)).setCell ⟨wt.heap.size, 6, none⟩ (.int .i64 k.c)).setCell ⟨wt.heap.size, 7, none⟩ (.int .i64 k.t)) := by
  have h0 : Below wt.heap.size wt (wt.alloc o).drew := ((Below.refl _ _).alloc (Nat.le_refl _) _).drew
  exact ⟨s, c, HasT.set8 hT, (hj.keeps (keeps8 (Keeps.refl (fun x => x = wt.heap.size) w2) rfl _ _ _ _ _ _ _ _) (fun _ q => q)).1, below8 (bnext h0 hq) (Nat.le_refl _) _ _ _ _ _ _ _ _, Nat.le_refl _⟩
set_option maxHeartbeats 4000000 in
set_option maxRecDepth 100000 in
theorem alike_yes (S X X2 : Nat → Prop) (B : Nat) (A : Tab) (T : Nat → Tk) (hg : LGood A T) (v gs ts ls ks : Value) (w : World) (h : Lf S X B w A T v) (hd : DL X2 w A T gs ts ls ks) :
    Calls Tryz.prog 8 #[v, lv 2 gs ts ls ks] w fun e w' => e = .returned (.bool true) ∧ Below w.heap.size w w' := by
  have hn8 : A.idxs.length ≤ 8 := by have := idxTo_len A.t A.n; have e8 : A.n = 8 := hg.len; show (idxTo A.t A.n).length ≤ 8; omega
  have hk2 : A.kind = 2 := hg.kind
  have HPA := Lib.hid (fun W (hb : Below w.heap.size w W) => (lall S X (fun _ => False) B A T hg W v (h.below hb) (fun _ k => k.elim)).mono fun _ _ h => allPost_shape h)
  have HRA := Lib.hid (fun W (hb : Below w.heap.size w W) => (rall13 (fun _ => False) A T hg gs ts ls ks W ((hd.below hb).mono (fun _ _ k => k.elim)) (fun _ k => k.elim)).mono fun _ _ h => allPost_shape h)
  have HPR := Lib.hid (fun W (hb : Below w.heap.size w W) => lready S X B A T hg W v (h.below hb))
  have HRR := Lib.hid (fun W (hb : Below w.heap.size w W) => rready13 X2 A T hg gs ts ls ks W (hd.below hb))
  have HPT := Lib.hid (fun W (hb : Below w.heap.size w W) x i (hf : A.find x = some i) => ltask_some S X (fun _ => False) B A T hg W v (h.below hb) x (fun _ k => k.elim) i hf)
  have HRT := Lib.hid (fun W (hb : Below w.heap.size w W) b (hwb : w.heap.size ≤ b) x i (hf : A.find x = some i) => rtask_some (fun y => y = b) A T hg gs ts ls ks W ((hd.mono (fun y hy e => by omega)).below hb) x i hf)
  have HPS := Lib.hid (fun W (hb : Below w.heap.size w W) => lsave S X B A T hg W v (h.below hb))
  have HRS := Lib.hid (fun W (hb : Below w.heap.size w W) => rsave13 X2 A T hg gs ts ls ks W (hd.below hb))
  have HFD := Lib.hid (fun (j : Nat) (hj : j < A.idxs.length) => find_hd hg.tab (idxs_at hj).1 (idxs_at hj).2)
  have HOK := Lib.hid hg.ok
  have HLT := Lib.hid (show A.taken.length = A.gens.length from hg.tab.lt)
  have HLN := Lib.hid (show A.gens.length = 8 from hg.len)
  unfold SavePost at HPS
  unfold SaveR13 at HRS
  rw [hk2] at HRA HRR HRT HRS
  generalize rdyH A T = rh at *
  obtain ⟨_, bl, _, _, rfl, _⟩ := id h
  obtain ⟨⟨p1, n1, c1, p2, n2, c2, p3, n3, c3, rfl, rfl, rfl⟩, pk, ck, rfl⟩ := sl5 hd
  obtain ⟨WA, hWA⟩ : ∃ WA, WA = w.alloc (.cells #[.int .i64 2, .slice p1 n1 c1, .slice p2 n2 c2, .slice p3 n3 c3, .slice pk 8 ck] LT) := ⟨_, rfl⟩
  have HB := Lib.hid (show Below w.heap.size w WA from by rw [hWA]; exact (Below.refl _ _).alloc (Nat.le_refl _) _)
  have HT := Lib.hid (show HasL WA w.heap.size 2 (.slice p1 n1 c1) (.slice p2 n2 c2) (.slice p3 n3 c3) (.slice pk 8 ck) from by rw [hWA]; exact hasL_new _ _ _ _ _ _)
  have HX := Lib.hid (fun W (hW : Below WA.heap.size WA W) => show AkW w WA 2 (.slice p1 n1 c1) (.slice p2 n2 c2) (.slice p3 n3 c3) (.slice pk 8 ck) W from by
    obtain ⟨a0, a1, a2, a3, a4⟩ := (HT.out.below hW).cells
    exact ⟨a0, a1, a2, a3, a4, bnext HB.out hW, hW⟩)
  unfold AkW at HX
  have HW := Lib.hid hWA
  clear hWA hd h hg hk2
  go_enter Tryz.func8, Tryz.ntmps8
  go_upto_region 1 with fail
  rw [← HW.out]
  obtain ⟨a0, a1, a2, a3, a4, _, _⟩ := HX.out WA (Below.refl _ _)
  go_region_held3 (fun w' => w'.cell? ⟨w.heap.size, 0, none⟩ = some (.int .i64 2) ∧ w'.cell? ⟨w.heap.size, 1, none⟩ = some (.slice p1 n1 c1) ∧ w'.cell? ⟨w.heap.size, 2, none⟩ = some (.slice p2 n2 c2) ∧ w'.cell? ⟨w.heap.size, 3, none⟩ = some (.slice p3 n3 c3) ∧ w'.cell? ⟨w.heap.size, 4, none⟩ = some (.slice pk 8 ck) ∧ Below w.heap.size w w' ∧ Below WA.heap.size WA w')
    (first | exact HX.out _ (Below.refl _ _) | exact HX.out _ (below_drew (Below.refl _ _)) | (go_split_ands; exact HX.out _ (bnext (by assumption) hb)) | (go_split_ands; exact ⟨by assumption, by assumption, by assumption, by assumption, by assumption, by assumption, by assumption⟩))
    (first
      | (go_at_call 28; refine (HPA.out _ ?_).mono ?_; (go_split_ands; assumption); rintro e wa ⟨pa, ca, rfl, la, hb⟩; have hba := hb; have LA := Lib.hid la; clear la)
      | (go_at_call 29; refine (HRA.out _ ?_).mono ?_; (go_split_ands; assumption); rintro e wb ⟨pb, cb, rfl, lb, hb⟩; have hbb := hb; have LB := Lib.hid lb; clear lb))
  have HBB := Lib.hid (show Below WA.heap.size WA wb from by go_split_ands; assumption)
  have HHA := Lib.hid (lst_hnd (LA.out.below hbb))
  have HHB := Lib.hid (lst_hnd LB.out)
  clear hba hbb LA LB hb a0 a1 a2 a3 a4
  obtain ⟨a0, a1, a2, a3, a4, _, _⟩ := HX.out wb HBB.out
  have hq : ((rh : Int) == rh) = true := by simp
  clear a0 a1 a2 a3 a4
  have HX2 := Lib.hid (show ∀ W, Below wb.heap.size wb W → AkW w wb 2 (.slice p1 n1 c1) (.slice p2 n2 c2) (.slice p3 n3 c3) (.slice pk 8 ck) W from fun W hW => by
    obtain ⟨a0, a1, a2, a3, a4, b0, _⟩ := HX.out W (bnext HBB.out hW)
    exact ⟨a0, a1, a2, a3, a4, b0, hW⟩)
  unfold AkW at HX2
  obtain ⟨a0, a1, a2, a3, a4, _, _⟩ := HX2.out wb (Below.refl _ _)
  go_upto_region 2 with fail
  go_region_held3 (fun w' => w'.cell? ⟨w.heap.size, 0, none⟩ = some (.int .i64 2) ∧ w'.cell? ⟨w.heap.size, 1, none⟩ = some (.slice p1 n1 c1) ∧ w'.cell? ⟨w.heap.size, 2, none⟩ = some (.slice p2 n2 c2) ∧ w'.cell? ⟨w.heap.size, 3, none⟩ = some (.slice p3 n3 c3) ∧ w'.cell? ⟨w.heap.size, 4, none⟩ = some (.slice pk 8 ck) ∧ Below w.heap.size w w' ∧ Below wb.heap.size wb w')
    (first | exact HX2.out _ (Below.refl _ _) | exact HX2.out _ (below_drew (Below.refl _ _)) | (go_split_ands; exact HX2.out _ (bnext (by assumption) hb)) | (go_split_ands; exact ⟨by assumption, by assumption, by assumption, by assumption, by assumption, by assumption, by assumption⟩))
    (first
      | (go_at_call 30; refine (HPR.out _ ?_).mono ?_; (go_split_ands; assumption); rintro e wc ⟨rfl, hb⟩)
      | (go_at_call 31; refine (HRR.out _ ?_).mono ?_; (go_split_ands; assumption); rintro e wd ⟨rfl, hb⟩))
  have HBD := Lib.hid (show Below wb.heap.size wb wd from by go_split_ands; assumption)
  have HHA := Lib.hid (HHA.out.below HBD.out)
  have HHB := Lib.hid (HHB.out.below HBD.out)
  have HBB := Lib.hid (bnext HBB.out HBD.out)
  clear HBD HX2 hb a0 a1 a2 a3 a4 HPA HRA HPR HRR hq
  generalize hnn : A.idxs.length = n at *
  have HNN := Lib.hid hnn
  clear hnn
  go_wp2_with fail
  go_loopw [7] (fun iv wr => ∃ k : Nat, iv = .int .i64 k ∧ k ≤ n ∧ Hid (Below WA.heap.size WA wr) ∧ Hid (Hnd wr A pa) ∧ Hid (Hnd wr A pb)) (fun iv _ => n - (intOf iv).toNat)
  case atStart => exact ⟨0, rfl, Nat.zero_le _, HBB, HHA, HHB⟩
  case round =>
    clear HHA HHB HBB
    obtain ⟨k, rfl, hkn, HBW, HHA, HHB⟩ := hrel
    obtain ⟨a0, a1, a2, a3, a4, _, _⟩ := HX.out wr HBW.out
    have y0 : (0 : Int) ≤ (k : Int) := by omega
    by_cases hk : k < n
    · have hk' : (k : Int) < (n : Int) := by omega
      obtain ⟨ba, oa, rfl, hca⟩ := HHA.out k (by rw [HNN.out]; exact hk)
      obtain ⟨bb, ob, rfl, hcb⟩ := HHB.out k (by rw [HNN.out]; exact hk)
      have HFI := Lib.hid (HFD.out k hk)
      have HNX := Lib.hid ((HOK.out (A.idxs.getD k 0)).2.1)
      generalize A.hd (A.idxs.getD k 0) = hx at *
      have HTK := Lib.hid (HPT.out wr (bnext HB.out HBW.out) hx _ HFI.out)
      have HTR := Lib.hid (fun W hb b hwb => HRT.out W hb b hwb hx _ HFI.out)
      obtain ⟨t, hti⟩ : ∃ t, t = T (A.idxs.getD k 0) := ⟨_, rfl⟩
      rw [← hti] at HTK HTR HNX
      clear hti
      obtain ⟨tp, ts, tn, tf, ⟨kg, ko, kn, kd, kc, kt⟩⟩ := t
      dsimp only at HTK HTR HNX
      go_wp2_with fail
      refine HTK.out.mono ?_
      rintro e w3 ⟨s3, rfl, hJ3, hb3⟩
      obtain ⟨⟨p3', cp3, rfl, _, _⟩, _⟩ := id hJ3
      have HB3 := Lib.hid (bnext HBW.out hb3)
      have HJ3 := Lib.hid hJ3.1
      have HK3 := Lib.hid hb3
      clear hb3 hJ3 a0 a1 a2 a3 a4
      obtain ⟨wt, hwt⟩ : ∃ wt, wt = w3.alloc (.cells #[.int .i64 tp, .slice p3' tn cp3, .int .i64 kg, .int .i64 ko, .int .i64 kn, .int .i64 kd, .int .i64 kc, .int .i64 kt] KT) := ⟨_, rfl⟩
      go_upto_region 8 with fail
      rw [← hwt]
      have HWT := Lib.hid (show Below w3.heap.size w3 wt ∧ HasT wt w3.heap.size tp (.slice p3' tn cp3) ⟨kg, ko, kn, kd, kc, kt⟩ from by rw [hwt]; exact ⟨(Below.refl _ _).alloc (Nat.le_refl _) _, hasT_new w3 tp (.slice p3' tn cp3) ⟨kg, ko, kn, kd, kc, kt⟩⟩)
      have HBT := Lib.hid (bnext HB3.out HWT.out.1)
      have hcc : wt.cell? ⟨bb, ob + k, none⟩ = _ := (((HWT.out.1.cell (p := ⟨bb, ob + k, none⟩) (Nat.lt_of_lt_of_le (cell_lt hcb) HK3.out.size)).trans (HK3.out.cell (p := ⟨bb, ob + k, none⟩) (cell_lt hcb)))).trans hcb
      have hcd : wt.cell? ⟨ba, oa + k, none⟩ = _ := (((HWT.out.1.cell (p := ⟨ba, oa + k, none⟩) (Nat.lt_of_lt_of_le (cell_lt hca) HK3.out.size)).trans (HK3.out.cell (p := ⟨ba, oa + k, none⟩) (cell_lt hca)))).trans hca
      obtain ⟨a0, a1, a2, a3, a4, _, _⟩ := HX.out wt HBT.out
      clear hwt hca hcb
      have HWL := Lib.hid (show w.heap.size ≤ wt.heap.size from (bnext HB.out HBT.out).size)
      have hla : ba < wt.heap.size := cell_lt hcd
      have hlb : bb < wt.heap.size := cell_lt hcc
      have hlr : w.heap.size < wt.heap.size := cell_lt a0
      have HTR1 := Lib.hid (HTR.out wt.drew (bnext HB.out HBT.out).drew wt.heap.size HWL.out)
      have HTR2 := Lib.hid (HTR.out (wt.alloc (.cells #[.int .i64 0, .slice none 0 0, .int .i64 0, .int .i64 0, .int .i64 0, .int .i64 0, .int .i64 0, .int .i64 0] KT)).drew ((bnext HB.out HBT.out).alloc HWL.out _).drew wt.heap.size HWL.out)
      have HCC := Lib.hid (⟨hcc, hcd⟩ : _ ∧ _)
      go_cut [10, 11] (fun uv fv wx => ∃ b, uv = .pointer (some ⟨b, 0, none⟩) ∧ fv = .int .i64 0 ∧ Hid (UB wt tp tn tf ⟨kg, ko, kn, kd, kc, kt⟩ b wx))
      case first =>
        go_region_law (first
          | (go_simp; go_at_call 26; refine HTR1.out.mono ?_; rintro e w4 ⟨s4, rfl, hJ4, hb4⟩; obtain ⟨⟨p4', cp4, rfl, _, _⟩, _⟩ := id hJ4; have HJ4 := Lib.hid hJ4; have HQ := Lib.hid hb4; clear hJ4 hb4)
          | (go_simp; go_at_call 26; refine HTR2.out.mono ?_; rintro e w4 ⟨s4, rfl, hJ4, hb4⟩; obtain ⟨⟨p4', cp4, rfl, _, _⟩, _⟩ := id hJ4; have HTX := Lib.hid (HasT.below (has_drew (hasT_new wt 0 (.slice none 0 0) kZ)) hb4); obtain ⟨x0, x1, x2, x3, x4, x5, x6, x7⟩ := HTX.out.cells; have fx := fun j => has_free HTX.out j; have HJ4 := Lib.hid hJ4; have HQ := Lib.hid hb4; clear hJ4 hb4))
        all_goals
          go_wp2_with fail
          go_meet
          refine ⟨_, rfl, rfl, Lib.hid ?_⟩
          first
            | (with_reducible exact UB.a (k := ⟨kg, ko, kn, kd, kc, kt⟩) HQ.out HJ4.out)
            | (with_reducible exact UB.b (k := ⟨kg, ko, kn, kd, kc, kt⟩) HQ.out HTX.out HJ4.out)
      case rest =>
        obtain ⟨b, rfl, rfl, HUB⟩ := hcut
        obtain ⟨s5, c5, hT5, hJ5, hB5, hb5⟩ := HUB.out
        clear a0 a1 a2 a3 a4 hcc hcd
        have HD := Lib.hid (fun W (hb : Below wc.heap.size wc W) => show W.cell? ⟨bb, ob + k, none⟩ = some (.int .i64 hx) ∧ W.cell? ⟨ba, oa + k, none⟩ = some (.int .i64 hx) ∧ _ ∧ _ from
          ⟨((bnext hB5 hb).cell (p := ⟨bb, ob + k, none⟩) hlb).trans HCC.out.1, ((bnext hB5 hb).cell (p := ⟨ba, oa + k, none⟩) hla).trans HCC.out.2, HasT.cells ((HWT.out.2.below hB5).below hb), HasT.cells (hT5.below hb)⟩)
        have HSM := Lib.hid (fun W (hb : Below wc.heap.size wc W) => tsame_any tp (.slice p3' tn cp3) tn tf ⟨kg, ko, kn, kd, kc, kt⟩ tp (.slice s5 tn c5) tn tf ⟨kg, ko, kn, kd, kc, kt⟩ W (((HJ3.out.below HWT.out.1).below hB5).below hb) (hJ5.below hb))
        rw [show decide (sameT tp tn tf ⟨kg, ko, kn, kd, kc, kt⟩ tp tn tf ⟨kg, ko, kn, kd, kc, kt⟩) = true from decide_eq_true ⟨rfl, rfl, rfl, fun _ _ => rfl⟩] at HSM
        have HBC := Lib.hid (bnext HBT.out hB5)
        have HHC := Lib.hid (show Below wr.heap.size wr wc from bnext (bnext HK3.out HWT.out.1) hB5)
        have hq : ((hx : Int) != hx) = false := by simp
        clear hT5 hJ5 hB5 hb5 HUB HCC HTR1 HTR2
        obtain ⟨c0, c1, ⟨x0, x1, x2, x3, x4, x5, x6, x7⟩, ⟨z0, z1, z2, z3, z4, z5, z6, z7⟩⟩ := HD.out wc (Below.refl _ _)
        go_upto_region 9 with fail
        have HY := Lib.hid (fun W (hb : Below wc.heap.size wc W) => show W.cell? ⟨bb, ob + k, none⟩ = some (.int .i64 hx) ∧ W.cell? ⟨ba, oa + k, none⟩ = some (.int .i64 hx) ∧ W.cell? ⟨w3.heap.size, 0, none⟩ = some (.int .i64 tp) ∧ W.cell? ⟨w3.heap.size, 1, none⟩ = some (.slice p3' tn cp3) ∧ W.cell? ⟨w3.heap.size, 2, none⟩ = some (.int .i64 kg) ∧ W.cell? ⟨w3.heap.size, 3, none⟩ = some (.int .i64 ko) ∧ W.cell? ⟨w3.heap.size, 4, none⟩ = some (.int .i64 kn) ∧ W.cell? ⟨w3.heap.size, 5, none⟩ = some (.int .i64 kd) ∧ W.cell? ⟨w3.heap.size, 6, none⟩ = some (.int .i64 kc) ∧ W.cell? ⟨w3.heap.size, 7, none⟩ = some (.int .i64 kt) ∧ W.cell? ⟨b, 0, none⟩ = some (.int .i64 tp) ∧ W.cell? ⟨b, 1, none⟩ = some (.slice s5 tn c5) ∧ W.cell? ⟨b, 2, none⟩ = some (.int .i64 kg) ∧ W.cell? ⟨b, 3, none⟩ = some (.int .i64 ko) ∧ W.cell? ⟨b, 4, none⟩ = some (.int .i64 kn) ∧ W.cell? ⟨b, 5, none⟩ = some (.int .i64 kd) ∧ W.cell? ⟨b, 6, none⟩ = some (.int .i64 kc) ∧ W.cell? ⟨b, 7, none⟩ = some (.int .i64 kt) ∧ Below wc.heap.size wc W from by
          obtain ⟨c0, c1, ⟨x0, x1, x2, x3, x4, x5, x6, x7⟩, ⟨z0, z1, z2, z3, z4, z5, z6, z7⟩⟩ := HD.out W hb
          exact ⟨c0, c1, x0, x1, x2, x3, x4, x5, x6, x7, z0, z1, z2, z3, z4, z5, z6, z7, hb⟩)
        go_region_held3 (fun w' => w'.cell? ⟨bb, ob + k, none⟩ = some (.int .i64 hx) ∧ w'.cell? ⟨ba, oa + k, none⟩ = some (.int .i64 hx) ∧ w'.cell? ⟨w3.heap.size, 0, none⟩ = some (.int .i64 tp) ∧ w'.cell? ⟨w3.heap.size, 1, none⟩ = some (.slice p3' tn cp3) ∧ w'.cell? ⟨w3.heap.size, 2, none⟩ = some (.int .i64 kg) ∧ w'.cell? ⟨w3.heap.size, 3, none⟩ = some (.int .i64 ko) ∧ w'.cell? ⟨w3.heap.size, 4, none⟩ = some (.int .i64 kn) ∧ w'.cell? ⟨w3.heap.size, 5, none⟩ = some (.int .i64 kd) ∧ w'.cell? ⟨w3.heap.size, 6, none⟩ = some (.int .i64 kc) ∧ w'.cell? ⟨w3.heap.size, 7, none⟩ = some (.int .i64 kt) ∧ w'.cell? ⟨b, 0, none⟩ = some (.int .i64 tp) ∧ w'.cell? ⟨b, 1, none⟩ = some (.slice s5 tn c5) ∧ w'.cell? ⟨b, 2, none⟩ = some (.int .i64 kg) ∧ w'.cell? ⟨b, 3, none⟩ = some (.int .i64 ko) ∧ w'.cell? ⟨b, 4, none⟩ = some (.int .i64 kn) ∧ w'.cell? ⟨b, 5, none⟩ = some (.int .i64 kd) ∧ w'.cell? ⟨b, 6, none⟩ = some (.int .i64 kc) ∧ w'.cell? ⟨b, 7, none⟩ = some (.int .i64 kt) ∧ Below wc.heap.size wc w')
          (first | exact HY.out _ (Below.refl _ _) | exact HY.out _ (below_drew (Below.refl _ _)) | (go_split_ands; exact HY.out _ (bnext (by assumption) hb)))
          ((go_at_call 27; refine (HSM.out _ ?_).mono ?_; (go_split_ands; assumption); rintro e wn ⟨rfl, hb⟩))
        have HBN := Lib.hid (show Below wc.heap.size wc wn from by go_split_ands; assumption)
        clear hb c0 x0 x1 x2 x3 x4 x5 x6 x7 z0 z1 z2 z3 z4 z5 z6 z7 HY HSM HD
        go_wp2_with fail
        go_roundw
        case rel => exact ⟨k + 1, by go_num, by omega, Lib.hid (bnext HBC.out HBN.out), Lib.hid (HHA.out.below (bnext HHC.out HBN.out)), Lib.hid (HHB.out.below (bnext HHC.out HBN.out))⟩
        case measure => simp [intOf]; omega
    · have HPS1 := Lib.hid (HPS.out wr (bnext HB.out HBW.out))
      clear HHA HHB HPT HRT HFD HOK a0 a1 a2 a3 a4
      go_wp2_with fail
      refine HPS1.out.mono ?_
      rintro e w2 ⟨gv, tv, g, c, sl, rfl, hg1, ht1, hk1, hb2⟩
      obtain ⟨pg, cg, rfl, HG⟩ := lst_sh hg1 (show (ints A.gens).length = A.gens.length from ints_len _)
      obtain ⟨pt, ct, rfl, HT1⟩ := lst_sh ht1 (show (bools A.taken).length = A.gens.length from (bools_len _).trans HLT.out)
      have HG := Lib.hid HG
      have HT1 := Lib.hid HT1
      have HK1 := Lib.hid hk1
      have HB2 := Lib.hid (bnext HBW.out hb2)
      obtain ⟨a0, a1, a2, a3, a4, _, _⟩ := HX.out w2 HB2.out
      clear hg1 ht1 hk1 hb2 HPS1
      go_wp2_with fail
      refine (HRS.out w2 (bnext HB.out HB2.out)).mono ?_
      rintro e w3 ⟨gv2, tv2, xv, sl2, rfl, hg2, ht2, hk2, hb3⟩
      obtain ⟨pg2, cg2, rfl, HG2⟩ := lst_sh hg2 (show (ints A.gens).length = A.gens.length from ints_len _)
      obtain ⟨pt2, ct2, rfl, HT2⟩ := lst_sh ht2 (show (bools A.taken).length = A.gens.length from (bools_len _).trans HLT.out)
      obtain ⟨px, cx, rfl, hm3, _⟩ := id hk2
      have HG2 := Lib.hid HG2
      have HT2 := Lib.hid HT2
      have HK2 := Lib.hid hk2
      have HB3 := Lib.hid (bnext HB2.out hb3)
      have HQ3 := Lib.hid hb3
      clear hg2 ht2 hk2 hb3 a0 a1 a2 a3 a4 HRS HPS
      generalize hln : A.gens.length = m at *
      have HM := Lib.hid hln
      have hm8 : m ≤ 8 := by have := HLN.out; omega
      clear hln
      go_wp2_with fail
      go_loopw [18] (fun iv wy => ∃ j : Nat, iv = .int .i64 j ∧ j ≤ m ∧ Hid (Below w3.heap.size w3 wy)) (fun iv _ => m - (intOf iv).toNat)
      case atStart => exact ⟨0, rfl, Nat.zero_le _, Lib.hid (Below.refl _ _)⟩
      case round =>
        obtain ⟨j, rfl, hjm, HBY⟩ := hrel
        have v0 : (0 : Int) ≤ (j : Int) := by omega
        by_cases hj : j < m
        · have v1 : (j : Int) < (m : Int) := by omega
          obtain ⟨b1, o1, rfl, hd1⟩ := HG.out _ (bnext HQ3.out HBY.out) j _ (ints_at (by rw [HM.out]; exact hj))
          obtain ⟨b2, o2, rfl, hd2⟩ := HT1.out _ (bnext HQ3.out HBY.out) j _ (bools_at (by rw [HLT.out]; exact hj))
          obtain ⟨b3, o3, rfl, hd3⟩ := HG2.out _ HBY.out j _ (ints_at (by rw [HM.out]; exact hj))
          obtain ⟨b4, o4, rfl, hd4⟩ := HT2.out _ HBY.out j _ (bools_at (by rw [HLT.out]; exact hj))
          generalize A.gens.getD j 0 = gj at *
          generalize A.taken.getD j false = tj at *
          go_wp2_with fail
          go_quiet (fail)
          go_wp2_with fail
          go_roundw
          case rel => exact ⟨j + 1, by go_num, by omega, Lib.hid (below_drewN HBY.out _)⟩
          case measure => simp [intOf]; omega
        · go_wp2_with fail
          go_loopw [19] (fun iv wz => ∃ i : Nat, iv = .int .i64 i ∧ i ≤ n ∧ Hid (Below w3.heap.size w3 wz)) (fun iv _ => n - (intOf iv).toNat)
          case atStart => exact ⟨0, rfl, Nat.zero_le _, HBY⟩
          case round =>
            clear HBY
            obtain ⟨i, rfl, hin, HBZ⟩ := hrel
            have s0 : (0 : Int) ≤ (i : Int) := by omega
            by_cases hi : i < n
            · have s1 : (i : Int) < (n : Int) := by omega
              obtain ⟨_, _, e1, _, hc1⟩ := (HK1.out.below HQ3.out).below HBZ.out
              obtain ⟨_, _, e2, _, hc2⟩ := HK2.out.below HBZ.out
              simp only [Value.slice.injEq] at e1 e2
              obtain ⟨b1, o1, f1, d0, d1, d2, d3, d4, d5, d6, d7, hJ1⟩ := hc1 i hi
              obtain ⟨b2, o2, f2, g0, g1, g2, g3, g4, g5, g6, g7, hJ2⟩ := hc2 i hi
              obtain ⟨e1, -, -⟩ := e1
              obtain ⟨e2, -, -⟩ := e2
              subst e1 e2
              subst f2
              have f1' : b1 = g ∧ o1 = 0 := by
                simp only [Option.some.injEq, Addr.mk.injEq] at f1
                exact ⟨f1.1.symm, f1.2.1.symm⟩
              obtain ⟨rfl, rfl⟩ := f1'
              obtain ⟨t, hti⟩ : ∃ t, t = toldF A T i := ⟨_, rfl⟩
              dsimp only [tm] at d0 d1 d2 d3 d4 d5 d6 d7 g0 g1 g2 g3 g4 g5 g6 g7 hJ1 hJ2
              rw [← hti] at d0 d2 d3 d4 d5 d6 d7 g0 g2 g3 g4 g5 g6 g7 hJ1 hJ2
              obtain ⟨tp, ts, tn, tf, ⟨kg, ko, kn, kd, kc, kt⟩⟩ := t
              dsimp only at d0 d1 d2 d3 d4 d5 d6 d7 g0 g1 g2 g3 g4 g5 g6 g7 hJ1 hJ2
              have HSM := Lib.hid (fun W (hb : Below wr.heap.size wr W) => tsame_any tp (sl i) tn tf ⟨kg, ko, kn, kd, kc, kt⟩ tp (sl2 i) tn tf ⟨kg, ko, kn, kd, kc, kt⟩ W (hJ1.below hb) (hJ2.below hb))
              rw [show decide (sameT tp tn tf ⟨kg, ko, kn, kd, kc, kt⟩ tp tn tf ⟨kg, ko, kn, kd, kc, kt⟩) = true from decide_eq_true ⟨rfl, rfl, rfl, fun _ _ => rfl⟩] at HSM
              generalize sl i = si at *
              generalize sl2 i = sj at *
              obtain ⟨qa, ka, rfl, _⟩ := hJ1
              obtain ⟨qb, kb, rfl, _⟩ := hJ2
              rw [Nat.zero_add] at d0 d1 d2 d3 d4 d5 d6 d7
              clear hti hc1 hc2
              have HY := Lib.hid (fun W (hb : Below wr.heap.size wr W) => show W.cell? ⟨b1, i * 8, none⟩ = some (.int .i64 tp) ∧ W.cell? ⟨b1, i * 8 + 1, none⟩ = some (.slice qa tn ka) ∧ W.cell? ⟨b1, i * 8 + 2, none⟩ = some (.int .i64 kg) ∧ W.cell? ⟨b1, i * 8 + 3, none⟩ = some (.int .i64 ko) ∧ W.cell? ⟨b1, i * 8 + 4, none⟩ = some (.int .i64 kn) ∧ W.cell? ⟨b1, i * 8 + 5, none⟩ = some (.int .i64 kd) ∧ W.cell? ⟨b1, i * 8 + 6, none⟩ = some (.int .i64 kc) ∧ W.cell? ⟨b1, i * 8 + 7, none⟩ = some (.int .i64 kt) ∧ W.cell? ⟨b2, o2 + i * 8, none⟩ = some (.int .i64 tp) ∧ W.cell? ⟨b2, o2 + i * 8 + 1, none⟩ = some (.slice qb tn kb) ∧ W.cell? ⟨b2, o2 + i * 8 + 2, none⟩ = some (.int .i64 kg) ∧ W.cell? ⟨b2, o2 + i * 8 + 3, none⟩ = some (.int .i64 ko) ∧ W.cell? ⟨b2, o2 + i * 8 + 4, none⟩ = some (.int .i64 kn) ∧ W.cell? ⟨b2, o2 + i * 8 + 5, none⟩ = some (.int .i64 kd) ∧ W.cell? ⟨b2, o2 + i * 8 + 6, none⟩ = some (.int .i64 kc) ∧ W.cell? ⟨b2, o2 + i * 8 + 7, none⟩ = some (.int .i64 kt) ∧ Below wr.heap.size wr W from
                ⟨(hb.cell (p := ⟨b1, i * 8, none⟩) (cell_lt d0)).trans d0, (hb.cell (p := ⟨b1, i * 8 + 1, none⟩) (cell_lt d1)).trans d1, (hb.cell (p := ⟨b1, i * 8 + 2, none⟩) (cell_lt d2)).trans d2, (hb.cell (p := ⟨b1, i * 8 + 3, none⟩) (cell_lt d3)).trans d3, (hb.cell (p := ⟨b1, i * 8 + 4, none⟩) (cell_lt d4)).trans d4, (hb.cell (p := ⟨b1, i * 8 + 5, none⟩) (cell_lt d5)).trans d5, (hb.cell (p := ⟨b1, i * 8 + 6, none⟩) (cell_lt d6)).trans d6, (hb.cell (p := ⟨b1, i * 8 + 7, none⟩) (cell_lt d7)).trans d7, (hb.cell (p := ⟨b2, o2 + i * 8, none⟩) (cell_lt g0)).trans g0, (hb.cell (p := ⟨b2, o2 + i * 8 + 1, none⟩) (cell_lt g1)).trans g1, (hb.cell (p := ⟨b2, o2 + i * 8 + 2, none⟩) (cell_lt g2)).trans g2, (hb.cell (p := ⟨b2, o2 + i * 8 + 3, none⟩) (cell_lt g3)).trans g3, (hb.cell (p := ⟨b2, o2 + i * 8 + 4, none⟩) (cell_lt g4)).trans g4, (hb.cell (p := ⟨b2, o2 + i * 8 + 5, none⟩) (cell_lt g5)).trans g5, (hb.cell (p := ⟨b2, o2 + i * 8 + 6, none⟩) (cell_lt g6)).trans g6, (hb.cell (p := ⟨b2, o2 + i * 8 + 7, none⟩) (cell_lt g7)).trans g7, hb⟩)
              go_upto_region 23 with fail
              go_region_held3 (fun w' => w'.cell? ⟨b1, i * 8, none⟩ = some (.int .i64 tp) ∧ w'.cell? ⟨b1, i * 8 + 1, none⟩ = some (.slice qa tn ka) ∧ w'.cell? ⟨b1, i * 8 + 2, none⟩ = some (.int .i64 kg) ∧ w'.cell? ⟨b1, i * 8 + 3, none⟩ = some (.int .i64 ko) ∧ w'.cell? ⟨b1, i * 8 + 4, none⟩ = some (.int .i64 kn) ∧ w'.cell? ⟨b1, i * 8 + 5, none⟩ = some (.int .i64 kd) ∧ w'.cell? ⟨b1, i * 8 + 6, none⟩ = some (.int .i64 kc) ∧ w'.cell? ⟨b1, i * 8 + 7, none⟩ = some (.int .i64 kt) ∧ w'.cell? ⟨b2, o2 + i * 8, none⟩ = some (.int .i64 tp) ∧ w'.cell? ⟨b2, o2 + i * 8 + 1, none⟩ = some (.slice qb tn kb) ∧ w'.cell? ⟨b2, o2 + i * 8 + 2, none⟩ = some (.int .i64 kg) ∧ w'.cell? ⟨b2, o2 + i * 8 + 3, none⟩ = some (.int .i64 ko) ∧ w'.cell? ⟨b2, o2 + i * 8 + 4, none⟩ = some (.int .i64 kn) ∧ w'.cell? ⟨b2, o2 + i * 8 + 5, none⟩ = some (.int .i64 kd) ∧ w'.cell? ⟨b2, o2 + i * 8 + 6, none⟩ = some (.int .i64 kc) ∧ w'.cell? ⟨b2, o2 + i * 8 + 7, none⟩ = some (.int .i64 kt) ∧ Below wr.heap.size wr w')
                (first | exact HY.out _ (Below.refl _ _) | exact HY.out _ (below_drew (Below.refl _ _)) | (go_split_ands; exact HY.out _ (bnext (by assumption) hb)))
                ((go_at_call 27; refine (HSM.out _ ?_).mono ?_; (go_split_ands; assumption); rintro e wn ⟨rfl, hb⟩))
              have HB5 := Lib.hid (bnext HBZ.out (show Below wr.heap.size wr wn from by go_split_ands; assumption))
              clear hb d0 d1 d2 d3 d4 d5 d6 d7 g0 g1 g2 g3 g4 g5 g6 g7 HY HSM
              go_wp2_with fail
              go_roundw
              case rel => exact ⟨i + 1, by go_num, by omega, HB5⟩
              case measure => simp [intOf]; omega
            · go_wp2_with fail
              go_ret
              exact ⟨rfl, bnext HB.out (bnext HB3.out HBZ.out)⟩
end Go.Proofs.YthbkinopgialmaaGreatDoor
/- The law's own step: what asks for a task; no condition but those that each row names. -/
namespace Go.Proofs.YthbkinopgialmaaGreatDoor
open Go.RowKit Tsk

theorem ask_fin {S X : Nat → Prop} {B : Nat} {w W' : World} {A : Tab} {T : Nat → Tk} {v gs ts ls ks : Value} (hg : LGood A T) (hl : Lf S (XZ X w) B w A T v) (hd : DL (XZ X w) w A T gs ts ls ks) (hS : ∀ x, S x → x < w.heap.size) (hb : Below w.heap.size w W') :
    StepPost S X B w v (.returned (.tuple #[lv 2 gs ts ls ks, .bool true])) (((((W'.setCell ⟨w.heap.size + 1 + 1, 0, none⟩ (.int .i64 2)).setCell ⟨w.heap.size + 1 + 1, 1, none⟩ gs).setCell ⟨w.heap.size + 1 + 1, 2, none⟩ ts).setCell ⟨w.heap.size + 1 + 1, 3, none⟩ ls).setCell ⟨w.heap.size + 1 + 1, 4, none⟩ ks) := by
  have k5 := keeps5 (R := fun x => x = w.heap.size + 1 + 1) (Keeps.refl _ W') rfl (.int .i64 2) gs ts ls ks
  have hkw : Keeps S w W' := Keeps.of_below hb
  have q : S (w.heap.size + 1 + 1) ∨ w.heap.size ≤ w.heap.size + 1 + 1 := .inr (by omega)
  exact ⟨A, T, gs, ts, ls, ks, rfl, hg, ((hl.below hb).keeps k5 (fun x hx e => by have := hS x hx; omega) (fun x e => .inr e)).mono (fun x _ q => .inl q),
    ((hd.below hb).keeps (k5.mono (fun x e => .inr e))).mono (fun x _ q => .inl q), ((((hkw.setCell _ _ q).setCell _ _ q).setCell _ _ q).setCell _ _ q).setCell _ _ q⟩
/-- What is asked of both is told alike. -/
theorem task_both (S X : Nat → Prop) (B : Nat) (A : Tab) (T : Nat → Tk) (hg : LGood A T) (w : World) (v gs ts ls ks : Value) (hl : Lf S X B w A T v) (h : Int) : ∃ (tp : Int) (tn : Nat) (tf : Nat → Jb) (tk : Ac) (en : Int),
    (∀ W, Below w.heap.size w W → Calls Tryz.prog 25 #[v, .int .i64 h] W fun e w' => ∃ q c, e = .returned (.tuple #[tV tp (.slice q tn c) tk, errV en]) ∧ Jobs w' (.slice q tn c) tn tf ∧ Below W.heap.size W w') ∧
    (∀ (Y : Nat → Prop) W, DL Y W A T gs ts ls ks → Calls Tryz.prog 26 #[lv 2 gs ts ls ks, .int .i64 h] W fun e w' => ∃ q c, e = .returned (.tuple #[tV tp (.slice q tn c) tk, .int .i64 en]) ∧ JobsX Y w' (.slice q tn c) tn tf ∧ Below W.heap.size W w') := by
  have HP := fun W (hb : Below w.heap.size w W) => ltask S X (fun _ => False) B A T hg W v (hl.below hb) h (fun _ k => k.elim)
  have HR := fun (Y : Nat → Prop) W (hD : DL Y W A T gs ts ls ks) => rtask Y A T hg gs ts ls ks W hD h
  rw [hg.kind] at HR
  cases hf : A.find h with
  | none =>
    refine ⟨0, 0, fun _ => ⟨0, 0, 0, 0⟩, kZ, 20, fun W hb => (HP W hb).mono fun e w' hh => ?_, fun Y W hD => (HR Y W hD).mono fun e w' hh => ?_⟩
    · obtain ⟨h1, h2⟩ := hh.1 hf
      exact ⟨none, 0, h1, (JobsX.nil (fun _ => False) w' _).1, h2⟩
    · obtain ⟨h1, h2⟩ := hh.1 hf
      exact ⟨none, 0, h1, JobsX.nil Y w' _, h2⟩
  | some i =>
    refine ⟨(T i).p, (T i).n, (T i).f, (T i).k, 0, fun W hb => (HP W hb).mono fun e w' hh => ?_, fun Y W hD => (HR Y W hD).mono fun e w' hh => ?_⟩
    · obtain ⟨s, h1, h2, h3⟩ := hh.2 i hf
      obtain ⟨⟨q, c, rfl, _⟩, _⟩ := id h2
      rw [errV_0]
      exact ⟨q, c, h1, h2.1, h3⟩
    · obtain ⟨s, h1, h2, h3⟩ := hh.2 i hf
      obtain ⟨⟨q, c, rfl, _⟩, _⟩ := id h2
      exact ⟨q, c, h1, h2, h3⟩
theorem keeps_five {W0 W : World} (R : Nat) {u0 u1 u2 u3 u4 : Value} (W' : World) (h : Keeps (fun y => y = R) W0 W) (e : W' = ((((W.setCell ⟨R, 0, none⟩ u0).setCell ⟨R, 1, none⟩ u1).setCell ⟨R, 2, none⟩ u2).setCell ⟨R, 3, none⟩ u3).setCell ⟨R, 4, none⟩ u4) : Keeps (fun y => y = R) W0 W' := by
  subst e
  exact keeps5 h rfl _ _ _ _ _
set_option maxHeartbeats 8000000 in
set_option maxRecDepth 100000 in
theorem step_ask (S X : Nat → Prop) (B : Nat) (A : Tab) (T : Nat → Tk) (kd n h l c a d : Int) (hk0 : kd ≠ 0) (hk1 : kd ≠ 1) (hk2 : kd ≠ 2) (hk3 : kd ≠ 3) (v gs ts ls ks : Value) (w : World) (hin : StepIn S X B w A T v gs ts ls ks) :
    Calls Tryz.prog 7 #[v, lv 2 gs ts ls ks, opv kd n h l c a d] w (StepPost S X B w v) := by
  obtain ⟨hl2, hd2, hsx, hxw, hslt, hs0⟩ := hin.wide
  obtain ⟨tp, tn, tf, tk, en, hp, hr⟩ := task_both S X B A T hin.good w v gs ts ls ks hin.lf h
  obtain ⟨kg, ko, kn, kd', kc, kt⟩ := tk
  have HP := Lib.hid hp
  have HR := Lib.hid hr
  have HG := Lib.hid hin.good
  clear hp hr
  have HLA := Lib.hid hin.laid
  have HD2 := Lib.hid hd2
  have HSX := Lib.hid hsx
  have HXW := Lib.hid hxw
  have HSL := Lib.hid hslt
  have HS0 := Lib.hid hs0
  obtain ⟨⟨p1, n1, c1, p2, n2, c2, p3, n3, c3, rfl, rfl, rfl⟩, pk, ck, rfl⟩ := sl5 hd2
  obtain ⟨bl, rfl⟩ : ∃ bl, v = .pointer (some ⟨bl, 0, none⟩) := by
    obtain ⟨_, bl, _, _, e, _⟩ := id hl2
    exact ⟨bl, e⟩
  obtain ⟨hB, hbw, hsz⟩ := beg_new w (.slice p1 n1 c1) (.slice p2 n2 c2) (.slice p3 n3 c3) (.slice pk 8 ck) kd n h l c a d
  obtain ⟨WA, hWA⟩ : ∃ WA, WA = begW w (.slice p1 n1 c1) (.slice p2 n2 c2) (.slice p3 n3 c3) (.slice pk 8 ck) kd n h l c a d := ⟨_, rfl⟩
  rw [← hWA] at hB hbw hsz
  have HB := Lib.hid hB
  have HBW := Lib.hid hbw
  have HSZ := Lib.hid hsz
  unfold begW at hWA
  have HW := Lib.hid hWA
  have HL2 := Lib.hid hl2
  have HSX2 := Lib.hid hin.sx
  clear hWA hB hbw hsz hin hl2 hd2 hsx hxw hslt hs0
  have g0 : (kd == 0) = false := by rw [beq_eq_false_iff_ne]; exact hk0
  have g1 : (kd == 1) = false := by rw [beq_eq_false_iff_ne]; exact hk1
  have g2 : (kd == 2) = false := by rw [beq_eq_false_iff_ne]; exact hk2
  have g3 : (kd == 3) = false := by rw [beq_eq_false_iff_ne]; exact hk3
  clear hk0 hk1 hk2 hk3
  go_enter Tryz.func7, Tryz.ntmps7
  go_upto_region 1 with fail
  rw [← HW.out]
  obtain ⟨a0, a1, a2, a3, a4⟩ := HB.out.r.cells
  obtain ⟨b0, b1, b2, b3, b4, b5, b6⟩ := HB.out.o.cells
  go_wp2_with fail
  refine (HP.out WA HBW.out).mono ?_
  rintro e w1 ⟨q1, c1', rfl, hj1, hb1⟩
  have hn9 := hj1.lt
  have HJ1 := Lib.hid hj1
  have HB1 := Lib.hid (HB.out.below hb1)
  have HBW1 := Lib.hid (bnext HBW.out hb1)
  have hs1 := hb1.size
  have HS1 := Lib.hid (show w.heap.size + 3 ≤ w1.heap.size from by have := HSZ.out; omega)
  clear hn9 hj1 hb1 hs1 a0 a1 a2 a3 a4 b0 b1 b2 b3 b4 b5 b6
  go_upto_region 19 with fail
  obtain ⟨wt, hwt⟩ : ∃ wt, wt = w1.alloc (.cells #[.int .i64 tp, .slice q1 tn c1', .int .i64 kg, .int .i64 ko, .int .i64 kn, .int .i64 kd', .int .i64 kc, .int .i64 kt] KT) := ⟨_, rfl⟩
  rw [← hwt]
  have HWT := Lib.hid (show Below w1.heap.size w1 wt ∧ HasT wt w1.heap.size tp (.slice q1 tn c1') ⟨kg, ko, kn, kd', kc, kt⟩ ∧ wt.heap.size = w1.heap.size + 1 from by rw [hwt]; exact ⟨(Below.refl _ _).alloc (Nat.le_refl _) _, hasT_new w1 tp (.slice q1 tn c1') ⟨kg, ko, kn, kd', kc, kt⟩, by simp⟩)
  have HBT := Lib.hid (HB1.out.below HWT.out.1)
  have HBWT := Lib.hid (bnext HBW1.out HWT.out.1)
  clear hwt
  obtain ⟨a0, a1, a2, a3, a4⟩ := HBT.out.r.cells
  obtain ⟨b0, b1, b2, b3, b4, b5, b6⟩ := HBT.out.o.cells
  have HR1 := Lib.hid (HR.out (fun _ => False) wt ((HD2.out.mono (fun _ _ k => k.elim)).below HBWT.out))
  clear HR
  go_wp2_with fail
  refine HR1.out.mono ?_
  rintro e w4 ⟨s5, c5, rfl, hJ4, hb4⟩
  have HJ4 := Lib.hid hJ4.1
  have HQ4 := Lib.hid hb4
  clear hJ4 hb4 a0 a1 a2 a3 a4 b0 b1 b2 b3 b4 b5 b6 HR1
  go_upto_region 20 with fail
  obtain ⟨wc, hwc⟩ : ∃ wc, wc = w4.alloc (.cells #[.int .i64 tp, .slice s5 tn c5, .int .i64 kg, .int .i64 ko, .int .i64 kn, .int .i64 kd', .int .i64 kc, .int .i64 kt] KT) := ⟨_, rfl⟩
  rw [← hwc]
  have HWC := Lib.hid (show Below w4.heap.size w4 wc ∧ HasT wc w4.heap.size tp (.slice s5 tn c5) ⟨kg, ko, kn, kd', kc, kt⟩ from by rw [hwc]; exact ⟨(Below.refl _ _).alloc (Nat.le_refl _) _, hasT_new w4 tp (.slice s5 tn c5) ⟨kg, ko, kn, kd', kc, kt⟩⟩)
  have HB5 := Lib.hid (bnext HQ4.out HWC.out.1)
  have HNE := Lib.hid (show w.heap.size + 1 + 1 < w1.heap.size ∧ w1.heap.size < w4.heap.size ∧ w.heap.size < w1.heap.size from by have := HWT.out.2.2; have := HS1.out; have := HQ4.out.size; omega)
  have HBC := Lib.hid (HBT.out.below HB5.out)
  have HTT := Lib.hid (HWT.out.2.1.below HB5.out)
  have HTU := Lib.hid HWC.out.2
  have HJT := Lib.hid ((HJ1.out.below HWT.out.1).below HB5.out)
  have HJU := Lib.hid (HJ4.out.below HWC.out.1)
  have HBWC := Lib.hid (bnext HBWT.out HB5.out)
  have HLC := Lib.hid (HLA.out.below HBWC.out)
  clear hwc HJ4 HQ4 HWC HB5 HWT HBT HBWT HJ1 HB1 HBW1 HS1 HSZ
  generalize w1.heap.size = t9 at *
  generalize w4.heap.size = b at *
  have hne := HNE.out
  have HY := Lib.hid (fun W (hW : Keeps (fun y => y = w.heap.size + 1 + 1) wc W) => show W.cell? ⟨w.heap.size, 0, none⟩ = some (.int .i64 2) ∧ W.cell? ⟨w.heap.size, 1, none⟩ = some (.slice p1 n1 c1) ∧ W.cell? ⟨w.heap.size, 2, none⟩ = some (.slice p2 n2 c2) ∧ W.cell? ⟨w.heap.size, 3, none⟩ = some (.slice p3 n3 c3) ∧ W.cell? ⟨w.heap.size, 4, none⟩ = some (.slice pk 8 ck) ∧ W.cell? ⟨t9, 0, none⟩ = some (.int .i64 tp) ∧ W.cell? ⟨t9, 1, none⟩ = some (.slice q1 tn c1') ∧ W.cell? ⟨t9, 2, none⟩ = some (.int .i64 kg) ∧ W.cell? ⟨t9, 3, none⟩ = some (.int .i64 ko) ∧ W.cell? ⟨t9, 4, none⟩ = some (.int .i64 kn) ∧ W.cell? ⟨t9, 5, none⟩ = some (.int .i64 kd') ∧ W.cell? ⟨t9, 6, none⟩ = some (.int .i64 kc) ∧ W.cell? ⟨t9, 7, none⟩ = some (.int .i64 kt) ∧ W.cell? ⟨b, 0, none⟩ = some (.int .i64 tp) ∧ W.cell? ⟨b, 1, none⟩ = some (.slice s5 tn c5) ∧ W.cell? ⟨b, 2, none⟩ = some (.int .i64 kg) ∧ W.cell? ⟨b, 3, none⟩ = some (.int .i64 ko) ∧ W.cell? ⟨b, 4, none⟩ = some (.int .i64 kn) ∧ W.cell? ⟨b, 5, none⟩ = some (.int .i64 kd') ∧ W.cell? ⟨b, 6, none⟩ = some (.int .i64 kc) ∧ W.cell? ⟨b, 7, none⟩ = some (.int .i64 kt) ∧ Keeps (fun y => y = w.heap.size + 1 + 1) wc W from by
    obtain ⟨a0, a1, a2, a3, a4⟩ := HasL.cells (has_keeps HBC.out.r hW (by omega))
    obtain ⟨u0, u1, u2, u3, u4, u5, u6, u7⟩ := HasT.cells (has_keeps HTT.out hW (by omega))
    obtain ⟨v0, v1, v2, v3, v4, v5, v6, v7⟩ := HasT.cells (has_keeps HTU.out hW (by omega))
    exact ⟨a0, a1, a2, a3, a4, u0, u1, u2, u3, u4, u5, u6, u7, v0, v1, v2, v3, v4, v5, v6, v7, hW⟩)
  have HN := Lib.hid (fun W (hW : Keeps (fun y => y = w.heap.size + 1 + 1) wc W) => num_any en W (HLC.out.keeps hW (by omega)))
  have HSM := Lib.hid (fun W (hW : Keeps (fun y => y = w.heap.size + 1 + 1) wc W) (h1 : Jobs W (.slice q1 tn c1') tn tf) (h2 : Jobs W (.slice s5 tn c5) tn tf) => tsame_any tp (.slice q1 tn c1') tn tf ⟨kg, ko, kn, kd', kc, kt⟩ tp (.slice s5 tn c5) tn tf ⟨kg, ko, kn, kd', kc, kt⟩ W h1 h2)
  rw [show decide (sameT tp tn tf ⟨kg, ko, kn, kd', kc, kt⟩ tp tn tf ⟨kg, ko, kn, kd', kc, kt⟩) = true from decide_eq_true ⟨rfl, rfl, rfl, fun _ _ => rfl⟩] at HSM
  have hq2 : ((en : Int) == en) = true := by simp
  have HZ := Lib.hid (fun W (hb : Below wc.heap.size wc W) => show _ ∧ (∀ j, W.frozen? ⟨w.heap.size + 1 + 1, j, none⟩ = false) from ⟨HasL.cells (HBC.out.z.below hb), fun j => has_free (HasL.below HBC.out.z hb) j⟩)
  go_region_held3 (fun w' => w'.cell? ⟨w.heap.size, 0, none⟩ = some (.int .i64 2) ∧ w'.cell? ⟨w.heap.size, 1, none⟩ = some (.slice p1 n1 c1) ∧ w'.cell? ⟨w.heap.size, 2, none⟩ = some (.slice p2 n2 c2) ∧ w'.cell? ⟨w.heap.size, 3, none⟩ = some (.slice p3 n3 c3) ∧ w'.cell? ⟨w.heap.size, 4, none⟩ = some (.slice pk 8 ck) ∧ w'.cell? ⟨t9, 0, none⟩ = some (.int .i64 tp) ∧ w'.cell? ⟨t9, 1, none⟩ = some (.slice q1 tn c1') ∧ w'.cell? ⟨t9, 2, none⟩ = some (.int .i64 kg) ∧ w'.cell? ⟨t9, 3, none⟩ = some (.int .i64 ko) ∧ w'.cell? ⟨t9, 4, none⟩ = some (.int .i64 kn) ∧ w'.cell? ⟨t9, 5, none⟩ = some (.int .i64 kd') ∧ w'.cell? ⟨t9, 6, none⟩ = some (.int .i64 kc) ∧ w'.cell? ⟨t9, 7, none⟩ = some (.int .i64 kt) ∧ w'.cell? ⟨b, 0, none⟩ = some (.int .i64 tp) ∧ w'.cell? ⟨b, 1, none⟩ = some (.slice s5 tn c5) ∧ w'.cell? ⟨b, 2, none⟩ = some (.int .i64 kg) ∧ w'.cell? ⟨b, 3, none⟩ = some (.int .i64 ko) ∧ w'.cell? ⟨b, 4, none⟩ = some (.int .i64 kn) ∧ w'.cell? ⟨b, 5, none⟩ = some (.int .i64 kd') ∧ w'.cell? ⟨b, 6, none⟩ = some (.int .i64 kc) ∧ w'.cell? ⟨b, 7, none⟩ = some (.int .i64 kt) ∧ Keeps (fun y => y = w.heap.size + 1 + 1) wc w')
    (first | exact HY.out _ (Keeps.refl _ _) | exact HY.out _ (Keeps.refl _ _).drew | (go_split_ands; exact HY.out _ (Keeps.trans (by assumption) (Keeps.of_below hb))) | (go_split_ands; exact HY.out _ (keeps_five _ _ (by assumption) rfl)))
    (first
      | (go_at_call 27; refine (HSM.out _ ?_ (HJT.out.below below_drewOne) (HJU.out.below below_drewOne)).mono ?_; (go_split_ands; assumption); rintro e wm ⟨rfl, hb⟩; have HQ2 := Lib.hid (bnext below_drewOne hb))
      | (go_at_call 13; refine (HN.out _ ?_).mono ?_; (go_split_ands; assumption); rintro e wn ⟨rfl, hb⟩; have HQ3 := Lib.hid (bnext HQ2.out hb); obtain ⟨⟨y0, y1, y2, y3, y4⟩, fz⟩ := HZ.out wn (bnext HQ2.out hb)))
  have HQ3 := Lib.hid (bnext HBWC.out HQ3.out)
  clear HQ2 HN HSM HY HZ
  go_wp2_with fail
  refine bodyPost_ret (v := .tuple #[lv 2 (.slice p1 n1 c1) (.slice p2 n2 c2) (.slice p3 n3 c3) (.slice pk 8 ck), .bool true]) (by simp [results, Tryz.results7, go_sem, y0, y1, y2, y3, y4]) rfl ?_
  exact ask_fin HG.out HL2.out HD2.out (fun x hx => (HSL.out x hx).2) HQ3.out
end Go.Proofs.YthbkinopgialmaaGreatDoor
/- The law's own step at any operation; a leaf and the document's, which lies in a block of its own, while a law plays; no condition but those that each row names. -/
namespace Go.Proofs.YthbkinopgialmaaGreatDoor
open Go.RowKit Tsk

theorem step_any (S X : Nat → Prop) (B : Nat) (A : Tab) (T : Nat → Tk) (k n h l c a d : Int) (v gs ts ls ks : Value) (w : World) (hin : StepIn S X B w A T v gs ts ls ks) :
    Calls Tryz.prog 7 #[v, lv 2 gs ts ls ks, opv k n h l c a d] w (StepPost S X B w v) := by
  by_cases k0 : k = 0
  · subst k0; exact step_add S X B A T n h l c a d v gs ts ls ks w hin
  · by_cases k1 : k = 1
    · subst k1; exact step_drop S X B A T n h l c a d v gs ts ls ks w hin
    · by_cases k2 : k = 2
      · subst k2; exact step_push S X B A T n h l c a d v gs ts ls ks w hin
      · by_cases k3 : k = 3
        · subst k3; exact step_offer S X B A T n h l c a d v gs ts ls ks w hin
        · exact step_ask S X B A T k n h l c a d k0 k1 k2 k3 v gs ts ls ks w hin
/-- A leaf and the document's, whose value lies in block R. -/
structure PlayZ (S X : Nat → Prop) (B R : Nat) (wr : World) (A : Tab) (T : Nat → Tk) (v gs ts ls ks : Value) : Prop where
  good : LGood A T
  lf : Lf S X B wr A T v
  dl : DL X wr A T gs ts ls ks
  hr : HasL wr R 2 gs ts ls ks
  sx : ∀ x, S x → X x
  xw : ∀ x, X x → x < wr.heap.size
  rx : X R
  rs : ¬ S R
  b0 : 0 < B
theorem PlayZ.below {S X : Nat → Prop} {B R : Nat} {wr W : World} {A : Tab} {T : Nat → Tk} {v gs ts ls ks : Value} (h : PlayZ S X B R wr A T v gs ts ls ks) (hb : Below wr.heap.size wr W) : PlayZ S X B R W A T v gs ts ls ks :=
  ⟨h.good, h.lf.below hb, h.dl.below hb, h.hr.below hb, h.sx, fun x hx => Nat.lt_of_lt_of_le (h.xw x hx) hb.size, h.rx, h.rs, h.b0⟩
theorem PlayZ.keeps {S X Q : Nat → Prop} {B R : Nat} {wr W : World} {A : Tab} {T : Nat → Tk} {v gs ts ls ks : Value} (h : PlayZ S X B R wr A T v gs ts ls ks) (hk : Keeps Q wr W) (hq : ∀ x, Q x → X x) (hs : ∀ x, S x → ¬ Q x) (hr : ¬ Q R) : PlayZ S X B R W A T v gs ts ls ks :=
  ⟨h.good, h.lf.keeps hk hs hq, h.dl.keeps (hk.mono hq), has_keeps h.hr hk hr, h.sx, fun x hx => Nat.lt_of_lt_of_le (h.xw x hx) hk.size, h.rx, h.rs, h.b0⟩
theorem PlayZ.stepIn {S X : Nat → Prop} {B R : Nat} {wr W : World} {A : Tab} {T : Nat → Tk} {v gs ts ls ks : Value} (h : PlayZ S X B R wr A T v gs ts ls ks) (hb : Below wr.heap.size wr W) (hl : LaidAt wr) : StepIn S X B W A T v gs ts ls ks :=
  ⟨h.good, h.lf.below hb, h.dl.below hb, h.sx, fun x hx => Nat.lt_of_lt_of_le (h.xw x hx) hb.size, h.b0, hl.below hb⟩
/-- The same, jobs and the document's leaf in no block that was laid at b either. -/
theorem PlayZ.stepIn2 {S X : Nat → Prop} {B R : Nat} {wr W : World} {A : Tab} {T : Nat → Tk} {v gs ts ls ks : Value} (h : PlayZ S X B R wr A T v gs ts ls ks) (hb : Below wr.heap.size wr W) (hw : wr.heap.size < W.heap.size) (hl : LaidAt wr) : StepIn S (fun x => X x ∨ x = wr.heap.size) B W A T v gs ts ls ks :=
  ⟨h.good, (h.lf.mono (fun x hx q => by rcases q with q | q; exact q; omega)).below hb, (h.dl.mono (fun x hx q => by rcases q with q | q; exact q; omega)).below hb, fun x hx => .inl (h.sx x hx), fun x q => by rcases q with q | q; exact Nat.lt_of_lt_of_le (h.xw x q) hb.size; omega, h.b0, hl.below hb⟩
/-- Behind a step, its answer in a block bx. -/
structure CutZ (S X : Nat → Prop) (B R : Nat) (wr : World) (v : Value) (A' : Tab) (T' : Nat → Tk) (gs ts ls ks : Value) (bx : Nat) (wx : World) : Prop where
  good : LGood A' T'
  lf : Lf S X B wx A' T' v
  dl : DL X wx A' T' gs ts ls ks
  hx : HasL wx bx 2 gs ts ls ks
  hr : ∃ gs0 ts0 ls0 ks0, HasL wx R 2 gs0 ts0 ls0 ks0
  kp : Keeps S wr wx
  ne : R < bx
theorem PlayZ.cutA {S X : Nat → Prop} {B R : Nat} {wr w2 : World} {A A' : Tab} {T T' : Nat → Tk} {v gs ts ls ks gs' ts' ls' ks' : Value} (h : PlayZ S X B R wr A T v gs ts ls ks) {W : World} (hb : Below wr.heap.size wr W) (hg : LGood A' T') (hl : Lf S X B w2 A' T' v) (hd : DL X w2 A' T' gs' ts' ls' ks') (hk : Keeps S W w2) :
    CutZ S X B R wr v A' T' gs' ts' ls' ks' w2.heap.size (w2.alloc (.cells #[.int .i64 2, gs', ts', ls', ks'] LT)) := by
  have ha : Below w2.heap.size w2 (w2.alloc (.cells #[.int .i64 2, gs', ts', ls', ks'] LT)) := (Below.refl _ _).alloc (Nat.le_refl _) _
  have hr : HasL w2 R 2 gs ts ls ks := has_keeps (h.hr.below hb) hk h.rs
  have hlt := has_lt hr
  exact ⟨hg, hl.below ha, hd.below ha, hasL_new _ _ _ _ _ _, ⟨_, _, _, _, hr.below ha⟩, ((Keeps.of_below hb).trans hk).trans (Keeps.of_below ha), hlt⟩
theorem PlayZ.cutB {S X : Nat → Prop} {B R : Nat} {wr w2 : World} {A A' : Tab} {T T' : Nat → Tk} {v gs ts ls ks gs' ts' ls' ks' : Value} (h : PlayZ S X B R wr A T v gs ts ls ks) (hg : LGood A' T') (hl : Lf S (fun x => X x ∨ x = wr.heap.size) B w2 A' T' v) (hd : DL (fun x => X x ∨ x = wr.heap.size) w2 A' T' gs' ts' ls' ks')
    (hk : Keeps S (wr.alloc (.cells #[.int .i64 0, N0, N0, N0, N0] LT)).drew w2) :
    CutZ S X B R wr v A' T' gs' ts' ls' ks' wr.heap.size (((((w2.setCell ⟨wr.heap.size, 0, none⟩ (.int .i64 2)).setCell ⟨wr.heap.size, 1, none⟩ gs').setCell ⟨wr.heap.size, 2, none⟩ ts').setCell ⟨wr.heap.size, 3, none⟩ ls').setCell ⟨wr.heap.size, 4, none⟩ ks') := by
  have hb : Below wr.heap.size wr (wr.alloc (.cells #[.int .i64 0, N0, N0, N0, N0] LT)).drew := ((Below.refl _ _).alloc (Nat.le_refl _) _).drew
  have hs : ∀ x, S x → x < wr.heap.size := fun x hx => h.xw x (h.sx x hx)
  have hh : HasL w2 wr.heap.size 0 N0 N0 N0 N0 := has_keeps (has_drew (hasL_new wr 0 N0 N0 N0 N0)) hk (fun q => by have := hs _ q; omega)
  have hr : HasL w2 R 2 gs ts ls ks := has_keeps (h.hr.below hb) hk h.rs
  have hlt := has_lt h.hr
  have k5 := keeps5 (R := fun x => x = wr.heap.size) (Keeps.refl _ w2) rfl (.int .i64 2) gs' ts' ls' ks'
  have hkw : Keeps S wr w2 := (Keeps.of_below hb).trans hk
  have q : S wr.heap.size ∨ wr.heap.size ≤ wr.heap.size := .inr (Nat.le_refl _)
  exact ⟨hg, (hl.keeps k5 (fun x hx e => by have := hs x hx; omega) (fun x e => .inr e)).mono (fun x _ q => .inl q), (hd.keeps (k5.mono (fun x e => .inr e))).mono (fun x _ q => .inl q), hh.set5, ⟨_, _, _, _, has_keeps hr k5 (by omega)⟩,
    ((((hkw.setCell _ _ q).setCell _ _ q).setCell _ _ q).setCell _ _ q).setCell _ _ q, hlt⟩
/-- The answer laid at R. -/
theorem PlayZ.turn {S X : Nat → Prop} {B R : Nat} {wr wx : World} {A A' : Tab} {T T' : Nat → Tk} {v gs ts ls ks gs' ts' ls' ks' : Value} {bx : Nat} (h : PlayZ S X B R wr A T v gs ts ls ks) (c : CutZ S X B R wr v A' T' gs' ts' ls' ks' bx wx) :
    PlayZ S X B R (((((wx.setCell ⟨R, 0, none⟩ (.int .i64 2)).setCell ⟨R, 1, none⟩ gs').setCell ⟨R, 2, none⟩ ts').setCell ⟨R, 3, none⟩ ls').setCell ⟨R, 4, none⟩ ks') A' T' v gs' ts' ls' ks' ∧
      Keeps (fun x => S x ∨ x = R) wr (((((wx.setCell ⟨R, 0, none⟩ (.int .i64 2)).setCell ⟨R, 1, none⟩ gs').setCell ⟨R, 2, none⟩ ts').setCell ⟨R, 3, none⟩ ls').setCell ⟨R, 4, none⟩ ks') := by
  have k5 := keeps5 (R := fun x => x = R) (Keeps.refl _ wx) rfl (.int .i64 2) gs' ts' ls' ks'
  obtain ⟨_, _, _, _, hr⟩ := c.hr
  exact ⟨⟨c.good, c.lf.keeps k5 (fun x hx e => h.rs (e ▸ hx)) (fun x e => e ▸ h.rx), c.dl.keeps (k5.mono (fun x e => e ▸ h.rx)), hr.set5, h.sx, fun x hx => Nat.lt_of_lt_of_le (h.xw x hx) (Nat.le_trans c.kp.size k5.size), h.rx, h.rs, h.b0⟩,
    (c.kp.mono (fun x q => .inl q)).trans (k5.mono (fun x q => .inr q))⟩
end Go.Proofs.YthbkinopgialmaaGreatDoor
/- A leaf that is loaded, the program's and the document's: of one table and one row of tasks, or neither; no condition but those that each row names. -/
namespace Go.Proofs.YthbkinopgialmaaGreatDoor
open Go.RowKit Tsk

abbrev ldA (gens : List Int) (taken : List Bool) (m : Nat) : Tab := Tab.load 2 gens taken (List.replicate m 0)
theorem ld_rank {gens : List Int} {taken : List Bool} {m : Nat} {TT : Nat → Tk} (h : okLoad gens taken m TT) {i : Nat} (hi : taken.getD i false = true) : rank taken i < m := by
  obtain ⟨h8, ⟨⟨h1, h2⟩, h3⟩, _⟩ := h
  have hA : (ldA gens taken m).Good := ok8_load h8 h1 h2 (L := fillL gens.length taken (List.replicate m 0)) (by rw [fillL_len]; exact h8)
  have hri : (ldA gens taken m).idxs.length = m := by
    rw [idxs_count, h3]
    show rank taken gens.length = _
    rw [h1]
  have hti : (ldA gens taken m).t i = true := hi
  have k := (List.getElem?_eq_some_iff.1 (idxs_rank (ldA gens taken m) (t_len2 hA hti) hti)).1
  rw [hri] at k
  exact k
theorem ld_good {gens : List Int} {taken : List Bool} {m : Nat} {TT : Nat → Tk} (h : okLoad gens taken m TT) : LGood (ldA gens taken m) (fillT taken TT 8) := by
  refine ⟨ok8_load h.1 h.2.1.1.1 h.2.1.1.2 (L := fillL gens.length taken (List.replicate m 0)) (by rw [fillL_len]; exact h.1), rfl, h.1, fun i => ?_⟩
  unfold fillT
  by_cases c : i < 8 ∧ taken.getD i false = true
  · rw [if_pos c]; exact h.2.2 _ (ld_rank h c.2)
  · rw [if_neg c]; exact tk0_ok
theorem ld_zero {gens : List Int} {taken : List Bool} {m : Nat} {TT : Nat → Tk} : ∀ i, (ldA gens taken m).t i = false → fillT taken TT 8 i = tk0 := fun i hi => by
  have hi' : taken.getD i false = false := hi
  unfold fillT
  rw [if_neg (fun c => by have := c.2; rw [hi'] at this; cases this)]
theorem ld_tm (taken : List Bool) (TT : Nat → Tk) (sl : Nat → Value) : ∃ s2, fillT taken (tm TT sl) 8 = tm (fillT taken TT 8) s2 := by
  refine ⟨fun i => if i < 8 ∧ taken.getD i false = true then sl (rank taken i) else .slice none 0 0, ?_⟩
  funext i
  unfold fillT tm
  by_cases c : i < 8 ∧ taken.getD i false = true
  · simp only [if_pos c]
  · simp only [if_neg c]; try rfl
/-- What the program's Load answers of the law's copies. -/
def LdR (w : World) (gens : List Int) (taken : List Bool) (m : Nat) (TT : Nat → Tk) (pv ev : Value) (w' : World) : Prop :=
  (okLoad gens taken m TT ∧ ev = .nilIface ∧ ∃ S bl, pv = .pointer (some ⟨bl, 0, none⟩) ∧ ∀ X : Nat → Prop, (∀ x, X x → x < w.heap.size) → Lf S (fun x => X x ∨ S x) w.heap.size w' (ldA gens taken m) (fillT taken TT 8) (.pointer (some ⟨bl, 0, none⟩))) ∨
  (¬ okLoad gens taken m TT ∧ pv = .pointer none ∧ ev = errV 270)
def LdP (w : World) (gens : List Int) (taken : List Bool) (m : Nat) (TT : Nat → Tk) (e : Ending) (w' : World) : Prop :=
  ∃ pv ev, e = .returned (.tuple #[pv, ev]) ∧ LdR w gens taken m TT pv ev w' ∧ Below w.heap.size w w'
theorem ld_prog (gens : List Int) (taken : List Bool) (m : Nat) (TT : Nat → Tk) (sl : Nat → Value) (v x y : Value) (w : World) (hv : Lst (fun _ => False) w v (ints gens)) (hx : Lst (fun _ => False) w x (bools taken)) (hy : Tasks w y m (tm TT sl)) (hok : ∀ j, j < m → (TT j).k.c ≤ 9223372036854775807 ∧ (TT j).n * 32 ≤ 140737488355328) :
    Calls Tryz.prog 10 #[v, x, y] w (LdP w gens taken m TT) := by
  by_cases h8 : gens.length = 8
  · refine (lload gens taken m (tm TT sl) (fillL gens.length taken (List.replicate m 0)) v x y w hv hx hy hok (by rw [fillL_len]; exact h8)).mono fun e w' hh => ?_
    rcases hh with ⟨h1, S, v', he, hX, hb⟩ | ⟨h1, he, hb⟩
    · obtain ⟨s2, e2⟩ := ld_tm taken TT sl
      obtain ⟨bl, rfl⟩ : ∃ bl, v' = .pointer (some ⟨bl, 0, none⟩) := by
        obtain ⟨_, bl, _, _, e, _⟩ := hX (fun _ => False) (fun _ k => k.elim)
        exact ⟨bl, e⟩
      exact ⟨_, _, he, .inl ⟨h1, rfl, S, bl, rfl, fun X hx => Lf_tm (s := s2) (by rw [← e2]; exact hX X hx)⟩, hb⟩
    · exact ⟨_, _, he, .inr ⟨h1, rfl, rfl⟩, hb⟩
  · exact (lload gens taken m (tm TT sl) (List.replicate 8 0) v x y w hv hx hy hok (by simp)).mono fun e w' hh => by
      rcases hh with ⟨h1, _⟩ | ⟨h1, he, hb⟩
      · exact absurd h1.1 h8
      · exact ⟨_, _, he, .inr ⟨h1, rfl, rfl⟩, hb⟩
/-- Both are loaded: the document's answer in a block R behind the call, or laid there. -/
theorem ld_a {S : Nat → Prop} {B : Nat} {w1 w2 : World} {A : Tab} {T : Nat → Tk} {v gs ts ls ks : Value} (hg : LGood A T) (hl : Lf S S B w1 A T v) (hb : Below w1.heap.size w1 w2) (hd : DL S w2 A T gs ts ls ks) (h0 : 0 < B) :
    PlayZ S (fun x => S x ∨ x = w2.heap.size) B w2.heap.size (w2.alloc (.cells #[.int .i64 2, gs, ts, ls, ks] LT)) A T v gs ts ls ks := by
  have ha : Below w2.heap.size w2 (w2.alloc (.cells #[.int .i64 2, gs, ts, ls, ks] LT)) := (Below.refl _ _).alloc (Nat.le_refl _) _
  have hlt := hl.lt
  have hs := hb.size
  exact ⟨hg, ((hl.mono (fun x hx q => by rcases q with q | q; exact q; omega)).below hb).below ha, (hd.mono (fun x hx q => by rcases q with q | q; exact q; omega)).below ha, hasL_new _ _ _ _ _ _, fun x q => .inl q, fun x q => by
    rcases q with q | q
    · have := (hlt x q).2; simp; omega
    · simp; omega, .inr rfl, fun q => by have := (hlt _ q).2; omega, h0⟩
theorem ld_b {S : Nat → Prop} {B : Nat} {w1 w2 : World} {A : Tab} {T : Nat → Tk} {v gs ts ls ks : Value} (hg : LGood A T) (hl : Lf S S B w1 A T v) (hb : Below (w1.alloc (.cells #[.int .i64 0, N0, N0, N0, N0] LT)).drew.heap.size (w1.alloc (.cells #[.int .i64 0, N0, N0, N0, N0] LT)).drew w2) (hd : DL (fun x => S x ∨ x = w1.heap.size) w2 A T gs ts ls ks) (h0 : 0 < B) :
    PlayZ S (fun x => S x ∨ x = w1.heap.size) B w1.heap.size (((((w2.setCell ⟨w1.heap.size, 0, none⟩ (.int .i64 2)).setCell ⟨w1.heap.size, 1, none⟩ gs).setCell ⟨w1.heap.size, 2, none⟩ ts).setCell ⟨w1.heap.size, 3, none⟩ ls).setCell ⟨w1.heap.size, 4, none⟩ ks) A T v gs ts ls ks := by
  have h1 : Below w1.heap.size w1 (w1.alloc (.cells #[.int .i64 0, N0, N0, N0, N0] LT)).drew := ((Below.refl _ _).alloc (Nat.le_refl _) _).drew
  have h2 := bnext h1 hb
  have hlt := hl.lt
  have hh : HasL w2 w1.heap.size 0 N0 N0 N0 N0 := HasL.below (has_drew (hasL_new w1 0 N0 N0 N0 N0)) hb
  have k5 := keeps5 (R := fun x => x = w1.heap.size) (Keeps.refl _ w2) rfl (.int .i64 2) gs ts ls ks
  exact ⟨hg, ((hl.mono (fun x hx q => by rcases q with q | q; exact q; omega)).below h2).keeps k5 (fun x hx e => by have := (hlt x hx).2; omega) (fun x e => .inr e), hd.keeps (k5.mono (fun x e => .inr e)), hh.set5, fun x q => .inl q, fun x q => by
    have := k5.size
    have := has_lt hh
    have := h2.size
    rcases q with q | q
    · have := (hlt x q).2; omega
    · omega, .inr rfl, fun q => by have := (hlt _ q).2; omega, h0⟩
theorem PlayZ.grow {S X Y : Nat → Prop} {B R : Nat} {wr W : World} {A : Tab} {T : Nat → Tk} {v gs ts ls ks : Value} (h : PlayZ S X B R wr A T v gs ts ls ks) (hb : Below wr.heap.size wr W) (h1 : ∀ x, x < wr.heap.size → Y x → X x) (h2 : ∀ x, X x → Y x) (h3 : ∀ x, Y x → x < W.heap.size) : PlayZ S Y B R W A T v gs ts ls ks :=
  ⟨h.good, (h.lf.mono h1).below hb, (h.dl.mono h1).below hb, h.hr.below hb, fun x q => h2 x (h.sx x q), h3, h2 _ h.rx, h.rs, h.b0⟩
/-- Two leaves and their twins of the document, none of which reaches into the others' blocks. -/
structure Apart (w : World) (S S2 X : Nat → Prop) (R R2 : Nat) : Prop where
  s1 : ∀ x, S x → X x
  s2 : ∀ x, S2 x → X x
  d1 : ∀ x, S2 x → ¬ (S x ∨ x = R)
  d2 : ∀ x, S x → ¬ (S2 x ∨ x = R2)
  r1 : X R
  r2 : X R2
  n1 : ¬ (S R2 ∨ R2 = R)
  n2 : ¬ (S2 R ∨ R = R2)
  lo : ∀ x, X x → w.heap.size ≤ x
theorem Apart.swap {w : World} {S S2 X : Nat → Prop} {R R2 : Nat} (h : Apart w S S2 X R R2) : Apart w S2 S X R2 R := ⟨h.s2, h.s1, h.d2, h.d1, h.r2, h.r1, h.n2, h.n1, h.lo⟩
def TwoZ (w : World) (S S2 X : Nat → Prop) (B B2 R R2 : Nat) (v v2 : Value) (wr : World) : Prop := ∃ A T gs ts ls ks A2 T2 gs2 ts2 ls2 ks2, PlayZ S X B R wr A T v gs ts ls ks ∧ PlayZ S2 X B2 R2 wr A2 T2 v2 gs2 ts2 ls2 ks2 ∧ Below w.heap.size w wr
theorem TwoZ.swap {w : World} {S S2 X : Nat → Prop} {B B2 R R2 : Nat} {v v2 : Value} {wr : World} (h : TwoZ w S S2 X B B2 R R2 v v2 wr) : TwoZ w S2 S X B2 B R2 R v2 v wr := by
  obtain ⟨A, T, gs, ts, ls, ks, A2, T2, gs2, ts2, ls2, ks2, h1, h2, h3⟩ := h
  exact ⟨_, _, _, _, _, _, _, _, _, _, _, _, h2, h1, h3⟩
theorem TwoZ.below {w : World} {S S2 X : Nat → Prop} {B B2 R R2 : Nat} {v v2 : Value} {wr W : World} (h : TwoZ w S S2 X B B2 R R2 v v2 wr) (hb : Below wr.heap.size wr W) : TwoZ w S S2 X B B2 R R2 v v2 W := by
  obtain ⟨A, T, gs, ts, ls, ks, A2, T2, gs2, ts2, ls2, ks2, h1, h2, h3⟩ := h
  exact ⟨_, _, _, _, _, _, _, _, _, _, _, _, h1.below hb, h2.below hb, bnext h3 hb⟩
/-- Behind the first one's step. -/
theorem TwoZ.step {w wr wx : World} {S S2 X : Nat → Prop} {B B2 R R2 : Nat} {v v2 : Value} (ha : Apart w S S2 X R R2) {A A' A2 : Tab} {T T' T2 : Nat → Tk} {gs ts ls ks gs' ts' ls' ks' gs2 ts2 ls2 ks2 : Value} {bx : Nat} (h1 : PlayZ S X B R wr A T v gs ts ls ks) (h2 : PlayZ S2 X B2 R2 wr A2 T2 v2 gs2 ts2 ls2 ks2) (h3 : Below w.heap.size w wr) (c : CutZ S X B R wr v A' T' gs' ts' ls' ks' bx wx) :
    TwoZ w S S2 X B B2 R R2 v v2 (((((wx.setCell ⟨R, 0, none⟩ (.int .i64 2)).setCell ⟨R, 1, none⟩ gs').setCell ⟨R, 2, none⟩ ts').setCell ⟨R, 3, none⟩ ls').setCell ⟨R, 4, none⟩ ks') := by
  obtain ⟨k1, k2⟩ := h1.turn c
  exact ⟨_, _, _, _, _, _, _, _, _, _, _, _, k1, h2.keeps k2 (fun x q => by rcases q with q | q; exact ha.s1 x q; exact q ▸ ha.r1) ha.d1 ha.n1, below_keeps h3 k2 (fun x q => ha.lo x (by rcases q with q | q; exact ha.s1 x q; exact q ▸ ha.r1))⟩
end Go.Proofs.YthbkinopgialmaaGreatDoor
/- The laws' own sure: what must come whatever the input is; no condition but those that each row names. -/
namespace Go.Proofs.YthbkinopgialmaaGreatDoor
open Go.RowKit Tsk

namespace Tsk
abbrev A0 : Tab := Tab.new 2 8
abbrev T0 : Nat → Tk := fun _ => tk0
abbrev A1 : Tab := addA A0 5
abbrev T1 : Nat → Tk := addT A0 T0 5
abbrev T2 : Nat → Tk := pushT A1 T1 (A0.hd 0) ⟨2, 0, 0, 0⟩ 0
end Tsk
theorem s_add : addN A0 5 = 0 ∧ addH A0 5 = mkH 2 0 1 := by decide +kernel
theorem s_push : pushN A1 T1 (mkH 2 0 1) ⟨2, 0, 0, 0⟩ 0 = 0 := by decide +kernel
theorem s_off : offH A1 (pushT A1 T1 (mkH 2 0 1) ⟨2, 0, 0, 0⟩ 0) 0 = mkH 2 0 1 ∧ offM A1 (pushT A1 T1 (mkH 2 0 1) ⟨2, 0, 0, 0⟩ 0) 0 = 0 ∧ offL A1 (pushT A1 T1 (mkH 2 0 1) ⟨2, 0, 0, 0⟩ 0) 0 = 0 := by decide +kernel
set_option maxHeartbeats 2000000 in
set_option maxRecDepth 100000 in
theorem sure_any (w : World) : Calls Tryz.prog 9 #[] w fun e w' => e = .returned (.bool true) ∧ Below w.heap.size w w' := by
  have HN := Lib.hid (lnew w)
  have HM := Lib.hid (fun W => rmk_ok 2 0 1 W (by unfold okP; omega))
  have HA := Lib.hid (fun S v W (h : Lf S S w.heap.size W A0 T0 v) => ladd S S w.heap.size A0 T0 LGood.new W v h (fun _ k => k) 5)
  have HP := Lib.hid (fun S v W (h : Lf S S w.heap.size W A1 T1 v) => lpush S S w.heap.size A1 T1 (LGood.new.addG 5) W v h (fun _ k => k) (fun x hx => (h.lt x hx).2) (mkH 2 0 1) ⟨2, 0, 0, 0⟩ 0)
  have HO := Lib.hid (fun S v W (h : Lf S S w.heap.size W A1 (pushT A1 T1 (mkH 2 0 1) ⟨2, 0, 0, 0⟩ 0) v) => loffer S S w.heap.size A1 _ ((LGood.new.addG 5).pushG _ _ _) W v h (fun _ k => k) (fun x hx => (h.lt x hx).2) 0)
  rw [s_add.1, s_add.2] at HA
  rw [s_push] at HP
  rw [s_off.1, s_off.2.1, s_off.2.2] at HO
  rw [errV_0] at HA HP
  go_enter Tryz.func9, Tryz.ntmps9
  go_wp2_with fail
  refine HN.out.mono ?_
  rintro e w1 ⟨S, v, rfl, hL, hb1⟩
  have H1 := Lib.hid (hL S)
  have HB1 := Lib.hid hb1
  obtain ⟨_, bl, _, _, rfl, _⟩ := hL S
  clear hL hb1
  go_wp2_with fail
  refine (HA.out S _ w1 H1.out).mono ?_
  rintro e w2 ⟨rfl, h2, k2⟩
  have H2 := Lib.hid h2
  have HB2 := Lib.hid (below_keeps HB1.out k2 (fun x hx => (H1.out.lt x hx).1))
  clear h2 k2
  generalize mkH 2 0 1 = hx at *
  go_wp2_with fail
  refine (HP.out S _ w2 H2.out).mono ?_
  rintro e w3 ⟨rfl, h3, k3⟩
  have H3 := Lib.hid h3
  have HB3 := Lib.hid (below_keeps HB2.out k3 (fun x hx => (H1.out.lt x hx).1))
  clear h3 k3
  go_wp2_with fail
  refine (HO.out S _ w3 H3.out).mono ?_
  rintro e w4 ⟨rfl, h4, k4⟩
  have HB4 := Lib.hid (below_keeps HB3.out k4 (fun x hx => (H1.out.lt x hx).1))
  clear h4 k4
  go_wp2_with fail
  refine (HM.out _).mono ?_
  rintro e w5 ⟨rfl, rfl⟩
  go_wp2_with fail
  go_ret
  exact ⟨rfl, HB4.out⟩
end Go.Proofs.YthbkinopgialmaaGreatDoor
/- What comes in opened to cells: a slice of operations (a kind, a number, a handle, a job of four numbers); no condition but those that each row names. -/
namespace Go.Proofs.YthbkinopgialmaaGreatDoor
open Go.ChangeShapes Go.WideShapes Go.RowKit Go.ChangeMaps Go.Deep Tsk

namespace Tsk
/-- An operation. -/
structure Oz where
  k : Int
  n : Int
  h : Int
  j : Jb
end Tsk
/-- A slice of operations as a function of the place. -/
def Opsz (w : World) (v : Value) (m : Nat) (O : Nat → Oz) : Prop :=
  ∃ p cap, v = .slice p m cap ∧ m ≤ 9223372036854775807 ∧ ∀ j, j < m → ∃ b off, p = some ⟨b, off, none⟩ ∧ w.cell? ⟨b, off + j * 7, none⟩ = some (.int .i64 (O j).k) ∧ w.cell? ⟨b, off + j * 7 + 1, none⟩ = some (.int .i64 (O j).n) ∧ w.cell? ⟨b, off + j * 7 + 2, none⟩ = some (.int .i64 (O j).h) ∧
    w.cell? ⟨b, off + j * 7 + 3, none⟩ = some (.int .i64 (O j).j.l) ∧ w.cell? ⟨b, off + j * 7 + 4, none⟩ = some (.int .i64 (O j).j.c) ∧ w.cell? ⟨b, off + j * 7 + 5, none⟩ = some (.int .i64 (O j).j.a) ∧ w.cell? ⟨b, off + j * 7 + 6, none⟩ = some (.int .i64 (O j).j.d)
theorem Opsz.below {w w' : World} {v : Value} {m : Nat} {O : Nat → Oz} (h : Opsz w v m O) (hb : Below w.heap.size w w') : Opsz w' v m O := by
  obtain ⟨p, cap, e, hl, hc⟩ := h
  refine ⟨p, cap, e, hl, fun j hj => ?_⟩
  obtain ⟨b, off, e2, c0, c1, c2, c3, c4, c5, c6⟩ := hc j hj
  have hl := cell_lt c0
  have k := fun (o : Nat) => hb.cell (p := ⟨b, o, none⟩) hl
  exact ⟨b, off, e2, (k _).trans c0, (k _).trans c1, (k _).trans c2, (k _).trans c3, (k _).trans c4, (k _).trans c5, (k _).trans c6⟩
theorem cellsOz : Tryz.prog.cellsOf 39 = 7 := by kernel_rfl
theorem cellsIntz : Tryz.prog.cellsOf 3 = 1 := by kernel_rfl
theorem cellsHz : Tryz.prog.cellsOf 35 = 1 := by kernel_rfl
theorem cellsJz : Tryz.prog.cellsOf 37 = 4 := by kernel_rfl
theorem laidOutz : laidOutB Tryz.prog = true := by kernel_rfl
theorem plain_addrz {w : World} {a : Addr} {v : Value} (h : w.cell? a = some v) : ∃ b off, a = ⟨b, off, none⟩ := by
  obtain ⟨b, off, spot⟩ := a
  have hs : spot = none := World.cell?_spot h
  subst hs
  exact ⟨b, off, rfl⟩

section
variable {H : Type} {enc : TypeId × Value → H} {w : World} {spare : Nat → Bool} {held : Bool}

set_option maxRecDepth 100000 in
/-- A slice of operations. -/
theorem open_opz {fuel : Nat} {v : Value} {x : DataW H × List MemPlace} (h : DataW.trod enc Tryz.prog w 0 spare held fuel 22 [v] = some x) : ∃ m O, Opsz w v m O := by
  rcases open_slice Tryz.underlying22 h with ⟨hc, _⟩ | ⟨a, len, cap, m, n, D, Pl, hcs, _, hl, hm, hmm, _, hi⟩
  · simp at hc
    subst hc
    exact ⟨0, fun _ => ⟨0, 0, 0, ⟨0, 0, 0, 0⟩⟩, none, 0, rfl, by omega, fun j hj => by omega⟩
  · simp at hcs
    subst hcs
    have hlm : len ≤ m := by rw [hmm]; split <;> omega
    have hpl : 0 < len → ∃ b off, a = ⟨b, off, none⟩ := fun h0 => by
      obtain ⟨cs', hc, _⟩ := hi 0 (by omega)
      rw [cellsOz] at hc
      obtain ⟨_, hcl, hat⟩ := World.cells?_some hc
      match cs', hcl with
      | [u0, u1, u2, u3, u4, u5, u6], _ =>
        have h0 := hat 0 (by simp)
        simp only [List.getElem?_cons_zero] at h0
        exact plain_addrz (by simpa [Addr.add] using h0)
    have hel : ∀ i, i < len → ∃ q : Oz, ∃ b off, a = ⟨b, off, none⟩ ∧ w.cell? ⟨b, off + i * 7, none⟩ = some (.int .i64 q.k) ∧ w.cell? ⟨b, off + i * 7 + 1, none⟩ = some (.int .i64 q.n) ∧ w.cell? ⟨b, off + i * 7 + 2, none⟩ = some (.int .i64 q.h) ∧
        w.cell? ⟨b, off + i * 7 + 3, none⟩ = some (.int .i64 q.j.l) ∧ w.cell? ⟨b, off + i * 7 + 4, none⟩ = some (.int .i64 q.j.c) ∧ w.cell? ⟨b, off + i * 7 + 5, none⟩ = some (.int .i64 q.j.a) ∧ w.cell? ⟨b, off + i * 7 + 6, none⟩ = some (.int .i64 q.j.d) := fun i hil => by
      obtain ⟨cs', hc, ht⟩ := hi i (by omega)
      rw [cellsOz] at hc
      obtain ⟨_, hcl, hat⟩ := World.cells?_some hc
      obtain ⟨xs, n', _, _, _, hxl, hf⟩ := DataW.trod_struct Tryz.underlying39 ht
      match cs', hcl with
      | [u0, u1, u2, u3, u4, u5, u6], _ =>
        have g0 := hf 0 _ rfl
        have g1 := hf 1 _ rfl
        have g2 := hf 2 _ rfl
        have g3 := hf 3 _ rfl
        simp [cellsIntz, cellsHz, cellsJz] at g0 g1 g2 g3
        match xs, hxl with
        | [y0, y1, y2, y3], _ =>
          obtain ⟨z0, e0, _, _⟩ := DataW.trod_int Tryz.underlying3 g0
          obtain ⟨z1, e1, _, _⟩ := DataW.trod_int Tryz.underlying3 g1
          obtain ⟨z2, e2, _, _⟩ := DataW.trod_int Tryz.underlying35 g2
          obtain ⟨xs2, n2, _, _, _, hxl2, hf2⟩ := DataW.trod_struct Tryz.underlying37 g3
          have k0 := hf2 0 _ rfl
          have k1 := hf2 1 _ rfl
          have k2 := hf2 2 _ rfl
          have k3 := hf2 3 _ rfl
          simp [cellsIntz] at k0 k1 k2 k3
          match xs2, hxl2 with
          | [v0, v1, v2, v3], _ =>
            obtain ⟨z3, e3, _, _⟩ := DataW.trod_int Tryz.underlying3 k0
            obtain ⟨z4, e4, _, _⟩ := DataW.trod_int Tryz.underlying3 k1
            obtain ⟨z5, e5, _, _⟩ := DataW.trod_int Tryz.underlying3 k2
            obtain ⟨z6, e6, _, _⟩ := DataW.trod_int Tryz.underlying3 k3
            simp at e0 e1 e2 e3 e4 e5 e6
            subst e0 e1 e2 e3 e4 e5 e6
            have h0 := hat 0 (by simp)
            have h1 := hat 1 (by simp)
            have h2 := hat 2 (by simp)
            have h3 := hat 3 (by simp)
            have h4 := hat 4 (by simp)
            have h5 := hat 5 (by simp)
            have h6 := hat 6 (by simp)
            simp only [add_add, List.getElem?_cons_zero, List.getElem?_cons_succ] at h0 h1 h2 h3 h4 h5 h6
            obtain ⟨b, off, rfl⟩ := hpl (by omega)
            rw [addr_plus] at h0 h1 h2 h3 h4 h5 h6
            exact ⟨⟨z0, z1, z2, ⟨z3, z4, z5, z6⟩⟩, b, off, rfl, by simpa using h0, by rw [Nat.add_assoc]; exact h1, by rw [Nat.add_assoc]; exact h2, by rw [Nat.add_assoc]; exact h3, by rw [Nat.add_assoc]; exact h4, by rw [Nat.add_assoc]; exact h5, by rw [Nat.add_assoc]; exact h6⟩
    refine ⟨len, fun i => if hil : i < len then Classical.choose (hel i hil) else ⟨0, 0, 0, ⟨0, 0, 0, 0⟩⟩, some a, cap, rfl, by unfold maxLen at hm; omega, fun j hj => ?_⟩
    obtain ⟨b, off, ha, c⟩ := Classical.choose_spec (hel j hj)
    refine ⟨b, off, by rw [ha], ?_⟩
    simp only [dif_pos hj]
    exact c
end
end Go.Proofs.YthbkinopgialmaaGreatDoor
/- The walk of the law LeafPlays: it answers true whatever is done, in every order; no condition but the listed variable. -/
namespace Go.Proofs.YthbkinopgialmaaGreatDoor
open Go.RowKit Tsk

theorem Opsz.at {w W : World} {q : Option Addr} {m cap : Nat} {O : Nat → Oz} (h : Opsz w (.slice q m cap) m O) (hb : Below w.heap.size w W) {i : Nat} (hi : i < m) : ∃ b off, q = some ⟨b, off, none⟩ ∧ b < w.heap.size ∧ W.cell? ⟨b, off + i * 7, none⟩ = some (.int .i64 (O i).k) ∧ W.cell? ⟨b, off + i * 7 + 1, none⟩ = some (.int .i64 (O i).n) ∧ W.cell? ⟨b, off + i * 7 + 2, none⟩ = some (.int .i64 (O i).h) ∧ W.cell? ⟨b, off + i * 7 + 3, none⟩ = some (.int .i64 (O i).j.l) ∧ W.cell? ⟨b, off + i * 7 + 4, none⟩ = some (.int .i64 (O i).j.c) ∧ W.cell? ⟨b, off + i * 7 + 5, none⟩ = some (.int .i64 (O i).j.a) ∧ W.cell? ⟨b, off + i * 7 + 6, none⟩ = some (.int .i64 (O i).j.d) := by
  obtain ⟨_, _, e, _, hc⟩ := h
  simp only [Value.slice.injEq] at e
  obtain ⟨b, off, e2, c0, c1, c2, c3, c4, c5, c6⟩ := hc i hi
  have hl : b < w.heap.size := cell_lt c0
  have k := fun (o : Nat) => hb.cell (p := ⟨b, o, none⟩) hl
  exact ⟨b, off, by rw [e.1]; exact e2, hl, (k _).trans c0, (k _).trans c1, (k _).trans c2, (k _).trans c3, (k _).trans c4, (k _).trans c5, (k _).trans c6⟩
/-- What the law's loop carries. -/
def PlaysW (w : World) (S : Nat → Prop) (R : Nat) (v : Value) (wr : World) : Prop := ∃ A T gs ts ls ks, PlayZ S (fun x => S x ∨ x = R) w.heap.size R wr A T v gs ts ls ks ∧ Below w.heap.size w wr
set_option maxHeartbeats 8000000 in
set_option maxRecDepth 100000 in
theorem plays_any (v : Value) (m : Nat) (O : Nat → Oz) (w : World) (h : Opsz w v m O) (hl : LaidAt w) : Calls Tryz.prog 3 #[v] w fun e w' => e = .returned (.bool true) ∧ Below w.heap.size w w' := by
  have HOP := Lib.hid h
  obtain ⟨q, cap, rfl, hm63, _⟩ := h
  have HN := Lib.hid (lnew w)
  have HSU := Lib.hid (fun W => sure_any W)
  have HL := Lib.hid hl
  have hpos := hl.pos
  have HPO := Lib.hid hpos
  clear hl
  go_enter Tryz.func3, Tryz.ntmps3
  go_wp2_with fail
  refine HN.out.mono ?_
  rintro e w1 ⟨S, v1, rfl, hL, hb1⟩
  have HLF := Lib.hid hL
  have HB1 := Lib.hid hb1
  obtain ⟨bl, rfl⟩ : ∃ bl, v1 = .pointer (some ⟨bl, 0, none⟩) := by
    obtain ⟨_, bl, _, _, e, _⟩ := hL S
    exact ⟨bl, e⟩
  have HSL := Lib.hid (hL S).lt
  have HRN := Lib.hid (rnew13 S w1 (fun x hx => (HSL.out x hx).2))
  clear hL hb1
  go_wp2_with fail
  refine HRN.out.mono ?_
  rintro e w2 ⟨gs, ts, ls, ks, rfl, hd2, hb2⟩
  obtain ⟨⟨p1, n1, c1, p2, n2, c2, p3, n3, c3, rfl, rfl, rfl⟩, pk, ck, rfl⟩ := sl5 hd2
  have HD2 := Lib.hid hd2
  have HB2 := Lib.hid hb2
  clear hd2 hb2
  go_upto_block 0 with fail
  obtain ⟨w3, hw3⟩ : ∃ w3, w3 = w2.alloc (.cells #[.int .i64 2, .slice p1 n1 c1, .slice p2 n2 c2, .slice p3 n3 c3, .slice pk 8 ck] LT) := ⟨_, rfl⟩
  rw [← hw3]
  have HPL := Lib.hid (show PlaysW w S w2.heap.size (.pointer (some ⟨bl, 0, none⟩)) w3 from by
    have hb : Below w2.heap.size w2 w3 := by rw [hw3]; exact (Below.refl _ _).alloc (Nat.le_refl _) _
    have hs : w3.heap.size = w2.heap.size + 1 := by rw [hw3]; simp
    have h2 := HB2.out.size
    have hd : DL (fun x => S x ∨ x = w2.heap.size) w2 (Tab.new 2 8) (fun _ => tk0) (.slice p1 n1 c1) (.slice p2 n2 c2) (.slice p3 n3 c3) (.slice pk 8 ck) := HD2.out.mono (fun x hx q => by rcases q with q | q; exact q; omega)
    exact ⟨_, _, _, _, _, _, ⟨LGood.new, ((HLF.out _).below HB2.out).below hb, hd.below hb, by rw [hw3]; exact hasL_new _ _ _ _ _ _, fun x q => .inl q, fun x q => by
      rcases q with q | q
      · have := (HSL.out x q).2; omega
      · omega, .inr rfl, fun q => by have := (HSL.out _ q).2; omega, HPO.out⟩, bnext (bnext HB1.out HB2.out) hb⟩)
  have HRW := Lib.hid (show w.heap.size ≤ w2.heap.size from (bnext HB1.out HB2.out).size)
  clear hw3
  generalize w2.heap.size = R at *
  clear HD2 HB2 HB1 HLF HRN HN
  go_wp2_with fail
  go_loopw [5] (fun iv wr => ∃ k : Nat, iv = .int .i64 k ∧ k ≤ m ∧ k ≤ 200 ∧ Hid (PlaysW w S R (.pointer (some ⟨bl, 0, none⟩)) wr)) (fun iv _ => 200 - (intOf iv).toNat)
  case atStart => exact ⟨0, rfl, Nat.zero_le _, by omega, HPL⟩
  case round =>
    clear HPL
    obtain ⟨k, rfl, hkm, hk200, HP⟩ := hrel
    obtain ⟨A, T, gs, ts, ls, ks, hp, hbw⟩ := HP.out
    obtain ⟨⟨p1, n1, c1, p2, n2, c2, p3, n3, c3, rfl, rfl, rfl⟩, pk, ck, rfl⟩ := sl5 hp.dl
    have HPZ := Lib.hid hp
    have HBW := Lib.hid hbw
    have z0 : (0 : Int) ≤ (k : Int) := by omega
    clear hp hbw HP
    obtain ⟨a0, a1, a2, a3, a4⟩ := HPZ.out.hr.cells
    by_cases hlt : k < m ∧ k < 200
    · obtain ⟨hlt1, hlt2⟩ := hlt
      have z1 : (k : Int) < (m : Int) := by omega
      have z2 : (k : Int) < 200 := by omega
      obtain ⟨b, off, rfl, hbl, e0, e1, e2, e3, e4, e5, e6⟩ := HOP.out.at HBW.out hlt1
      obtain ⟨o, ho⟩ : ∃ o, o = O k := ⟨_, rfl⟩
      rw [← ho] at e0 e1 e2 e3 e4 e5 e6
      clear ho
      obtain ⟨ok, on, oh, ⟨ol, oc, oa, od⟩⟩ := o
      dsimp only at e0 e1 e2 e3 e4 e5 e6
      have HLW := Lib.hid (HL.out.below HBW.out)
      have HST1 := Lib.hid (step_any _ _ _ _ _ ok on oh ol oc oa od _ _ _ _ _ _ (HPZ.out.stepIn below_drewOne HLW.out))
      have HST2 := Lib.hid (step_any _ _ _ _ _ ok on oh ol oc oa od _ _ _ _ _ _ (HPZ.out.stepIn2 (W := (wr.alloc (.cells #[.int .i64 0, N0, N0, N0, N0] LT)).drew) ((Below.refl _ _).alloc (Nat.le_refl _) _).drew (by simp [World.drew]) HLW.out))
      unfold StepPost at HST1 HST2
      have hlb : b < wr.heap.size := Nat.lt_of_lt_of_le hbl HBW.out.size
      have hlr : R < wr.heap.size := has_lt HPZ.out.hr
      have HXZ := Lib.hid (show ∀ W, Keeps S (wr.alloc (.cells #[.int .i64 0, N0, N0, N0, N0] LT)).drew W → HasL W wr.heap.size 0 N0 N0 N0 N0 from fun W hk => has_keeps (has_drew (hasL_new wr 0 N0 N0 N0 N0)) hk (fun q => by have := HPZ.out.xw _ (.inl q); omega))
      go_upto_region 8 with fail
      go_cut [6, 7] (fun xv kv wx => ∃ A' T' gs' ts' ls' ks' bx, xv = .pointer (some ⟨bx, 0, none⟩) ∧ kv = .bool true ∧ Hid (CutZ S (fun x => S x ∨ x = R) w.heap.size R wr (.pointer (some ⟨bl, 0, none⟩)) A' T' gs' ts' ls' ks' bx wx))
      case first =>
        go_region_law (first
          | (go_simp; go_at_call 7; refine HST1.out.mono ?_; rintro e w4 ⟨A', T', gs', ts', ls', ks', rfl, hg4, hl4, hd4, hk4⟩; obtain ⟨⟨q1, m1, d1, q2, m2, d2, q3, m3, d3, rfl, rfl, rfl⟩, qk, dk, rfl⟩ := sl5 hd4; have HG4 := Lib.hid hg4; have HL4 := Lib.hid hl4; have HD4 := Lib.hid hd4; have HK4 := Lib.hid hk4; clear hg4 hl4 hd4 hk4)
          | (go_simp; go_at_call 7; refine HST2.out.mono ?_; rintro e w4 ⟨A', T', gs', ts', ls', ks', rfl, hg4, hl4, hd4, hk4⟩; obtain ⟨⟨q1, m1, d1, q2, m2, d2, q3, m3, d3, rfl, rfl, rfl⟩, qk, dk, rfl⟩ := sl5 hd4; have HG4 := Lib.hid hg4; have HL4 := Lib.hid hl4; have HD4 := Lib.hid hd4; have HK4 := Lib.hid hk4; have HX4 := Lib.hid (HXZ.out _ hk4); obtain ⟨x0, x1, x2, x3, x4⟩ := HX4.out.cells; have fx := fun j => has_free HX4.out j; clear hg4 hl4 hd4 hk4))
        all_goals
          go_wp2_with fail
          go_meet
          refine ⟨A', T', .slice q1 m1 d1, .slice q2 m2 d2, .slice q3 m3 d3, .slice qk 8 dk, _, rfl, rfl, Lib.hid ?_⟩
          first
            | (with_reducible exact HPZ.out.cutA below_drewOne HG4.out HL4.out HD4.out HK4.out)
            | (with_reducible exact HPZ.out.cutB HG4.out HL4.out HD4.out HK4.out)
      case rest =>
        obtain ⟨A', T', gs', ts', ls', ks', bx, rfl, rfl, HC⟩ := hcut
        obtain ⟨⟨q1, m1, d1, q2, m2, d2, q3, m3, d3, rfl, rfl, rfl⟩, qk, dk, rfl⟩ := sl5 HC.out.dl
        clear a0 a1 a2 a3 a4 e0 e1 e2 e3 e4 e5 e6 HST1 HST2 HXZ hlb hlr
        obtain ⟨x0, x1, x2, x3, x4⟩ := HC.out.hx.cells
        obtain ⟨_, _, _, _, hr⟩ := HC.out.hr
        obtain ⟨y0, y1, y2, y3, y4⟩ := hr.cells
        have fr := fun j => has_free hr j
        have hne : ¬ R = bx := by have := HC.out.ne; omega
        have hne2 : ¬ bx = R := by have := HC.out.ne; omega
        have HT := Lib.hid (HPZ.out.turn HC.out)
        have HBN := Lib.hid (show Below w.heap.size w _ from below_keeps HBW.out HT.out.2 (fun x q => by
          rcases q with q | q
          · exact (HSL.out x q).1
          · have := HRW.out; omega))
        clear hr
        go_wp2_with fail
        go_roundw
        case rel => exact ⟨k + 1, by go_num, by omega, by omega, Lib.hid ⟨_, _, _, _, _, _, HT.out.1, HBN.out⟩⟩
        case measure => simp [intOf]; omega
    · have HAL := Lib.hid (alike_yes _ _ _ _ _ _ HPZ.out.good _ _ _ _ _ _ HPZ.out.lf HPZ.out.dl)
      by_cases h4 : k < m
      · have h5 : (200 : Int) ≤ (k : Int) := by omega
        clear hlt
        go_wp2_with fail
        refine HAL.out.mono ?_
        rintro e w4 ⟨rfl, hb4⟩
        go_wp2_with fail
        refine (HSU.out _).mono ?_
        rintro e w5 ⟨rfl, hb5⟩
        go_wp2_with fail
        go_ret
        exact ⟨rfl, bnext (bnext HBW.out hb4) hb5⟩
      · clear hlt
        go_wp2_with fail
        refine HAL.out.mono ?_
        rintro e w4 ⟨rfl, hb4⟩
        go_wp2_with fail
        refine (HSU.out _).mono ?_
        rintro e w5 ⟨rfl, hb5⟩
        go_wp2_with fail
        go_ret
        exact ⟨rfl, bnext (bnext HBW.out hb4) hb5⟩
end Go.Proofs.YthbkinopgialmaaGreatDoor
