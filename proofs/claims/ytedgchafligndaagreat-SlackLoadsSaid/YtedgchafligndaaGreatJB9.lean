/- Texts of stages 3, 4, 12, 13 and 14 that stand together: JList JAll JPlS JTwin JOwn JRem JCre; no condition but those that each row names. -/
import Derived.Test.YtedgchafligndaaGreatJB3
import Derived.Test.YtedgchafligndaaGreatJB5
import Derived.Test.YtedgchafligndaaGreatJB6
import Derived.Test.YtedgchafligndaaGreatJB8
import Derived.Maps.AppendAt
import Derived.Deep.AppendLies
import Derived.Deep.CutRange
import Derived.Deep.RegionLaw
/- The document's own pool: List; no condition but those that each row names. -/
namespace Go.Proofs.YtedgchafligndaaGreat
open Go.RowKit Tsk

/-- What List answers: the handles in a row of one's own. -/
def ListP (w : World) (A : Tab) (e : Ending) (w' : World) : Prop := ∃ v, e = .returned v ∧ w'.ownsRow w.heap.size 60 1 v A.idxs.length (ints A.all) ∧ Below w.heap.size w w'
set_option maxHeartbeats 4000000 in
set_option maxRecDepth 100000 in
theorem rlist14 (X : Nat → Prop) (A : Tab) (T : Nat → Tk) (last : Int) (hg : PGood A T last) (gs ts ks : Value) (w : World) (h : DP X w A T gs ts ks) :
    Calls Tryz.prog 11 #[pv gs ts ks last] w (ListP w A) := by
  have HNM := Lib.hid (fun W (hb : Below w.heap.size w W) i (hi : i < 16) (ht : A.t i = true) => rname X A T last hg gs ts ks W (h.below hb) i hi (hg.tab.gt i (by have := hg.len; omega) ht))
  obtain ⟨i0, hi, hz0, hz1, hz2⟩ := info_parts Tryz.info60
  obtain ⟨p, cp, q, cq, r, cr, sl, rfl, rfl, rfl, hc, hct, _⟩ := h.shape hg
  have HC := Lib.hid hct
  have HN := Lib.hid (show A.n = 16 from hg.len)
  obtain ⟨WA, hWA⟩ : ∃ WA, WA = w.alloc (.cells #[.slice p 16 cp, .slice q 16 cq, .slice r 16 cr, .int .i64 last] PT14) := ⟨_, rfl⟩
  have HB := Lib.hid (show Below w.heap.size w WA from by rw [hWA]; exact (Below.refl _ _).alloc (Nat.le_refl _) _)
  have HT := Lib.hid (show HasP WA w.heap.size (.slice p 16 cp) (.slice q 16 cq) (.slice r 16 cr) last from by rw [hWA]; exact hasP_new _ _ _ _ _)
  have HW := Lib.hid hWA
  clear hWA h hg hc hct
  go_enter Tryz.func11, Tryz.ntmps11
  go_upto_region 1 with fail
  rw [← HW.out]
  obtain ⟨a0, a1, a2, a3⟩ := HT.out.cells
  go_wp2_with fail
  go_loopw [3, 4] (fun xv iv wr => ∃ (k : Nat) (xw : Value), xw = xv ∧ k ≤ 16 ∧ iv = .int .i64 k ∧ Hid (wr.ownsRow WA.heap.size 60 1 xv (allTo A k).length (ints (allTo A k))) ∧ Hid (Below WA.heap.size WA wr)) (fun _ iv _ => 16 - (intOf iv).toNat)
  case atStart => exact ⟨0, _, rfl, Nat.zero_le _, rfl, Lib.hid (World.ownsRow_nil _ _ _ _), Lib.hid (Below.refl _ _)⟩
  case round =>
    clear a0 a1 a2 a3
    obtain ⟨k, xw, rfl, hk, rfl, HX, HBX⟩ := hrel
    obtain ⟨a0, a1, a2, a3⟩ := HasP.cells (HT.out.below HBX.out)
    have z0 : (0 : Int) ≤ (k : Int) := by omega
    have hn4 := allTo_len A k
    by_cases hlt : k < 16
    · have z1 : (k : Int) < 16 := by omega
      obtain ⟨b, off, rfl, hcb⟩ := HC.out _ (bnext HB.out HBX.out) k hlt
      cases htk : A.t k with
      | false =>
        rw [htk] at hcb
        have HE := Lib.hid (allTo_no htk)
        clear htk
        go_wp2_with fail
        go_roundw
        case rel => exact ⟨k + 1, _, rfl, by omega, by go_num, by rw [HE.out]; exact HX, HBX⟩
        case measure => simp [intOf]; omega
      | true =>
        rw [htk] at hcb
        have HE := Lib.hid (allTo_yes htk)
        have HNK := Lib.hid (fun W hb => HNM.out W hb k hlt htk)
        clear htk
        generalize A.hd k = y at *
        have HNK1 := Lib.hid (HNK.out wr (bnext HB.out HBX.out))
        go_wp2_with fail
        refine HNK1.out.mono ?_
        rintro e w4 ⟨rfl, hb4⟩
        have HO4 := Lib.hid (own_under HX.out hb4)
        have HB4 := Lib.hid (bnext HBX.out hb4)
        have hs4 := HB4.out.size
        clear hb4
        go_wp2_with (at_builtin; refine wpList_append_own _ rfl _ _ 47 rfl WA.heap.size 60 i0 (.int .i64 0) 1 8 Tryz.underlying47 hi hz0 hz1 hz2 rfl (by decide) xw (allTo A k).length (ints (allTo A k)) rfl (HO4.out.alloc _) ⟨w4.heap.size, 0, none⟩ 1 1 [.int .i64 y] rfl rfl (World.news_of_block (heap_alloc_new _ _)) (by simp [Value.oneCell']) (by unfold maxLen; omega) (by omega) (by simp; omega) ?_)
        intro va wa howna hgrowa _
        obtain ⟨pa, ca, rfl⟩ := own_slice howna
        have HO5 := Lib.hid (show wa.ownsRow WA.heap.size 60 1 (.slice pa ((allTo A k).length + 1) ca) (allTo A (k + 1)).length (ints (allTo A (k + 1))) from by
          rw [HE.out, ← ints_snoc, List.length_append]; exact howna)
        have HB5 := Lib.hid ((HB4.out.alloc HB4.out.size _).grown hgrowa (by simp; omega) (fun g e => (HO4.out.lt g e).1))
        clear howna hgrowa
        go_wp2_with fail
        go_roundw
        case rel => exact ⟨k + 1, _, rfl, by omega, by go_num, HO5, HB5⟩
        case measure => simp [intOf]; omega
    · obtain rfl : k = 16 := by omega
      have HE := Lib.hid (show allTo A 16 = A.all by rw [← HN.out]; rfl)
      go_wp2_with fail
      go_ret
      have ho := HX.out
      rw [HE.out, all_len] at ho
      exact ⟨_, rfl, own_base2 ho HB.out.size, bnext HB.out HBX.out⟩
end Go.Proofs.YtedgchafligndaaGreat
/- The program's All of a table, its answer a row of one's own; no condition but those that each row names. -/
namespace Go.Proofs.YtedgchafligndaaGreat
open Go.RowKit Tsk

set_option maxHeartbeats 2000000 in
set_option maxRecDepth 100000 in
theorem kallO (R : Nat → Prop) (B : Nat) (A : Tab) (hA : A.Good) (T : Nat → Tk) (w : World) (v : Value) (h : PKTab R B w A T v) :
    Calls Tryz.prog 21 #[v] w (ListP w A) := by
  obtain ⟨b, g1, c1, g2, c2, g3, c3, rfl, h, hTx⟩ := h
  clear hTx
  obtain ⟨i0, hi, hz0, hz1, hz2⟩ := info_parts Tryz.info60
  have n4 := hA.n4
  have hlt := hA.lt
  have f2 := h.f2
  rw [hlt] at f2
  have HP := Lib.hid (fun w1 (hb : Below w.heap.size w w1) => h.below hb)
  have HA := Lib.hid hA
  have HLT := Lib.hid hlt
  clear h hlt hA
  go_enter Tryz.func21, Tryz.ntmps21
  go_wp2_with fail
  go_loopw [3, 4, 5, 11] (fun x _ _ i wr => ∃ k : Nat, k ≤ A.gens.length ∧ i = .int .i64 k ∧ Hid (wr.ownsRow w.heap.size 60 1 x (allTo A k).length (ints (allTo A k))) ∧ Below w.heap.size w wr) (fun _ _ _ i _ => A.gens.length - (intOf i).toNat)
  case atStart => exact ⟨0, Nat.zero_le _, rfl, Lib.hid (World.ownsRow_nil _ _ _ _), Below.refl _ _⟩
  case round =>
    obtain ⟨k, hk, rfl, HX, hb⟩ := hrel
    by_cases hlt : k < A.gens.length
    · have q := (HP.out wr hb).own.t.cellAt k (by have := HLT.out; omega)
      rw [bools_at (by have := HLT.out; omega)] at q
      have z0 : (0 : Int) ≤ (k : Int) := by omega
      have z1 : (k : Int) < (A.gens.length : Int) := by omega
      cases ht : A.taken.getD k false with
      | true =>
        rw [ht] at q
        have HC := Lib.hid (khandle B A T HA.out wr b g1 c1 g2 c2 g3 c3 (HP.out wr hb) k hlt (HA.out.gt k hlt ht))
        have HE := Lib.hid (allTo_yes ht)
        have hn4 := allTo_len A k
        have hsz := hb.size
        clear ht
        go_wp2_with fail
        refine HC.out.mono ?_
        rintro e w1 ⟨rfl, nd, rfl⟩
        have hX1 := own_drewN HX.out nd
        have hb1 : Below w.heap.size w (wr.drewN nd) := below_drewN hb nd
        have hsz1 : w.heap.size ≤ (wr.drewN nd).heap.size := hb1.size
        have HX1 := Lib.hid hX1
        clear hX1
        generalize wr.drewN nd = W at *
        go_wp2_with (at_builtin; refine wpList_append_own _ rfl _ _ 47 rfl w.heap.size 60 i0 (.int .i64 0) 1 8 Tryz.underlying47 hi hz0 hz1 hz2 rfl (by decide) _ _ _ rfl (HX1.out.alloc _) ⟨W.heap.size, 0, none⟩ 1 1 [.int .i64 (A.hd k)] rfl rfl ?a1 ?a2 ?a3 ?a4 ?a5 ?_)
        case a1 => exact news_one W _ _
        case a2 => intro u hu; simp at hu; subst hu; rfl
        case a3 => unfold maxLen; omega
        case a4 => omega
        case a5 => simp; omega
        intro v' w2 hown2 hgrow2 _
        have HG := Lib.hid hgrow2
        have HO := Lib.hid (show w2.ownsRow w.heap.size 60 1 v' (allTo A (k + 1)).length (ints (allTo A (k + 1))) by
          rw [HE.out, ← ints_snoc, List.length_append]; exact hown2)
        have hX := HX1.out
        have HB2 : Below w.heap.size w w2 := (below_alloc hb1 _).grown hgrow2 (by simp; omega) (fun g e => (hX.lt g e).1)
        clear hown2 hgrow2 hX
        go_wp2_with fail
        go_roundw
        case rel => exact ⟨k + 1, by omega, by go_num, HO, HB2⟩
        case measure => simp [intOf]; omega
      | false =>
        rw [ht] at q
        have HE := Lib.hid (allTo_no ht)
        clear ht
        go_wp2_with fail
        go_roundw
        case rel => exact ⟨k + 1, by omega, by go_num, by rw [HE.out]; exact HX, hb⟩
        case measure => simp [intOf]; omega
    · have hk' : k = A.gens.length := by omega
      have HE := Lib.hid (show allTo A k = A.all by rw [hk']; rfl)
      have hn4 := allTo_len A k
      clear hk'
      go_wp2_with fail
      go_ret
      have ho := HX.out
      rw [HE.out, all_len] at ho
      exact ⟨_, rfl, ho, hb⟩
end Go.Proofs.YtedgchafligndaaGreat
/- The program's pool: Save; no condition but those that each row names. -/
namespace Go.Proofs.YtedgchafligndaaGreat
open Go.RowKit Tsk

/-- What Save answers. -/
def SavePl (w : World) (A : Tab) (T : Nat → Tk) (la : Int) (e : Ending) (w' : World) : Prop :=
  ∃ gs ts g c sl, e = .returned (.tuple #[gs, ts, .slice (some ⟨g, 0, none⟩) A.idxs.length c, .int .i64 la]) ∧ Lst (fun _ => False) w' gs (ints A.gens) ∧ Lst (fun _ => False) w' ts (bools A.taken) ∧ Tasks w' (.slice (some ⟨g, 0, none⟩) A.idxs.length c) A.idxs.length (tm (toldF A T) sl) ∧ Below w.heap.size w w'
/-- The tasks ahead of a place. -/
def cutF (F : Nat → Tk) (k : Nat) : Nat → Tk := fun j => if j < k then F j else tk0
theorem cutF_0 (F : Nat → Tk) : cutF F 0 = fun _ => tk0 := by funext j; unfold cutF; rw [if_neg (by omega)]
theorem cutF_s (F : Nat → Tk) (k : Nat) : cutF F (k + 1) = upd (cutF F k) k (F k) := by
  funext j
  unfold upd
  by_cases e : j = k
  · subst e; rw [if_pos rfl]; unfold cutF; rw [if_pos (by omega)]
  · rw [if_neg e]
    unfold cutF
    have : (j < k + 1) = (j < k) := propext ⟨fun h => by omega, fun h => by omega⟩
    simp only [this]
/-- The row of tasks while each gets jobs of its own. -/
def SaveJ (w : World) (F : Nat → Tk) (m g c k : Nat) (wr : World) : Prop :=
  ∃ sl, wr.ownsRow w.heap.size KT 8 (.slice (some ⟨g, 0, none⟩) m c) m (tkL (tm (cutF F k) sl) m) ∧ (∀ j, j < m → JobsX (fun x => x = g) wr (sl j) (cutF F k j).n (cutF F k j).f) ∧ Below w.heap.size w wr
theorem SaveJ.fin {w wr : World} {F : Nat → Tk} {m g c : Nat} (h : SaveJ w F m g c m wr) (hm : m ≤ 4096) : (∃ sl, Tasks wr (.slice (some ⟨g, 0, none⟩) m c) m (tm F sl)) ∧ Below w.heap.size w wr := by
  obtain ⟨sl, ho, hj, hb⟩ := h
  have hc : ∀ j, j < m → cutF F m j = F j := fun j hj => if_pos hj
  have he : tkL (tm (cutF F m) sl) m = tkL (tm F sl) m := tkL_congr fun j hj => by unfold tm; rw [hc j hj]
  rw [he] at ho
  exact ⟨⟨sl, own_tasks ho (by omega) fun j hlt => by have h1 := (hj j hlt).1; rw [hc j hlt] at h1; exact h1⟩, hb⟩
set_option maxHeartbeats 4000000 in
set_option maxRecDepth 100000 in
theorem plsave (S X : Nat → Prop) (B : Nat) (A : Tab) (T : Nat → Tk) (la : Int) (hg : PGood A T la) (w : World) (v : Value) (h : Pl S X B w A T la v) :
    Calls Tryz.prog 30 #[v] w (SavePl w A T la) := by
  have hm16 : A.idxs.length ≤ 16 := by have := idxTo_len A.t A.n; have e8 : A.n = 16 := hg.len; show (idxTo A.t A.n).length ≤ 16; omega
  obtain ⟨sl, bl, ST, tv, rfl, hc, hcl, ht, hb, rfl, hj⟩ := h.parts
  have HC := Lib.hid hc
  have HCL := Lib.hid hcl.1
  have HSL := Lib.hid (kslots (fun _ => False) ST B A hg.tab (tm T sl) w tv ht (fun _ k => k.elim))
  have HAL := Lib.hid (fun W (hb : Below w.heap.size w W) => kall (fun _ => False) ST B A hg.tab (tm T sl) W tv (ht.below hb) (fun _ k => k.elim))
  have HG := Lib.hid (fun W (hb : Below w.heap.size w W) (j : Nat) (hj' : j < A.idxs.length) => kget_some ST B A hg.tab (tm T sl) W tv (ht.below hb) (isSl_tm (w := w) hj) (A.hd (A.idxs.getD j 0)) (A.idxs.getD j 0) (find_hd hg.tab (idxs_at hj').1 (idxs_at hj').2))
  have HJ := Lib.hid (fun i => (hj i).1)
  have HOK := Lib.hid (show ∀ j, (T j).n ≤ 8 from fun j => (hg.ok _).2.1)
  obtain ⟨b, g1, c1, g2, c2, g3, c3, rfl, _⟩ := ht
  unfold SavePl
  clear hj hg hb hcl h hc
  go_enter Tryz.func30, Tryz.ntmps30
  have hc := HC.out
  go_wp2_with fail
  refine HSL.out.mono ?_
  rintro e w1 ⟨gs, ts, rfl, hl1, hl2, hb1⟩
  have HB1 := Lib.hid hb1
  have HL1 := Lib.hid hl1
  have HL2 := Lib.hid hl2
  have hc1 := (hb1.cell (p := ⟨bl, 0, none⟩) (cell_lt HC.out)).trans HC.out
  clear hl1 hl2 hb1 hc
  go_wp2_with fail
  refine (HAL.out w1 HB1.out).mono ?_
  rintro e w2 ⟨r, rfl, hl, hb2⟩
  have HB2 := Lib.hid (bnext HB1.out hb2)
  have HB2' := Lib.hid hb2
  obtain ⟨pa, ca, rfl, _, hal⟩ := hl
  have HA2 := Lib.hid (show ∀ j, j < A.idxs.length → ∃ ba oa, pa = some ⟨ba, oa, none⟩ ∧ w2.cell? ⟨ba, oa + j, none⟩ = some (.int .i64 (A.hd (A.idxs.getD j 0))) from fun j hj => by
    obtain ⟨ba, oa, e, _, hca⟩ := hal j _ (all_at hj)
    exact ⟨ba, oa, e, hca⟩)
  have el : (ints A.all).length = A.idxs.length := by rw [ints_len, all_len]
  rw [el]
  have hmk := fun w => make_tasks A.idxs.length (by omega) w
  generalize hmm : A.idxs.length = m at *
  have HM := Lib.hid hmm
  clear hal el hb2 hc1 hmm
  have HBR := Lib.hid (show Below w.heap.size w (w2.alloc (.cells (tkZ m) KT)) ∧ Below w2.heap.size w2 (w2.alloc (.cells (tkZ m) KT)) from ⟨HB2.out.alloc HB2.out.size _, (Below.refl _ _).alloc (Nat.le_refl _) _⟩)
  have HG2 := Lib.hid (show w.heap.size ≤ w2.heap.size from HB2.out.size)
  have HS0 := Lib.hid (show SaveJ w (toldF A T) m w2.heap.size m 0 (w2.alloc (.cells (tkZ m) KT)) from ⟨fun _ => .slice none 0 0, by
      rw [cutF_0]
      exact own_base2 (own_tkZ w2 m w2.heap.size rfl (Nat.le_refl _) (by omega)) HB2.out.size, fun j hj => by rw [cutF_0]; exact JobsX.nil _ _ _, HB2.out.alloc HB2.out.size _⟩)
  have HW0 := Lib.hid (show Below w2.heap.size w2 (w2.alloc (.cells (tkZ m) KT)) from (Below.refl _ _).alloc (Nat.le_refl _) _)
  go_wp2_with fail
  generalize w2.alloc (.cells (tkZ m) KT) = W0 at *
  obtain ⟨g, hg⟩ : ∃ g, g = w2.heap.size := ⟨_, rfl⟩
  have HGG := Lib.hid hg
  rw [← hg]
  rw [← hg] at HS0
  clear hg hmk
  go_loopw [34] (fun iv wr => ∃ i : Nat, iv = .int .i64 i ∧ i ≤ m ∧ Hid (SaveJ w (toldF A T) m g m i wr) ∧ Hid (Below w2.heap.size w2 wr)) (fun iv _ => m - (intOf iv).toNat)
  case atStart => exact ⟨0, rfl, Nat.zero_le _, HS0, HW0⟩
  case round =>
    obtain ⟨i, rfl, hi, HS, HBW⟩ := hrel
    have HBT := Lib.hid (bnext HB2.out HBW.out)
    by_cases him : i < m
    · obtain ⟨ba, oa, rfl, hca⟩ := HA2.out i him
      have hca1 := (HBW.out.cell (p := ⟨ba, oa + i, none⟩) (cell_lt hca)).trans hca
      have hc1 := (HBT.out.cell (p := ⟨bl, 0, none⟩) (cell_lt HC.out)).trans HC.out
      have HGi := Lib.hid (HG.out wr HBT.out i him)
      dsimp only [tm] at HGi
      have HJI := Lib.hid (HJ.out (A.idxs.getD i 0))
      have hni := HOK.out (A.idxs.getD i 0)
      obtain ⟨p0, c0, e0, _⟩ := HJI.out
      rw [e0] at HGi HJI
      have z0 : (0 : Int) ≤ (i : Int) := by omega
      have z1 : (i : Int) < (m : Int) := by omega
      have HCS := Lib.hid (show cutF (toldF A T) (i + 1) = upd (cutF (toldF A T) i) i (T (A.idxs.getD i 0)) from cutF_s _ _)
      obtain ⟨t, hti⟩ : ∃ t, t = T (A.idxs.getD i 0) := ⟨_, rfl⟩
      rw [← hti] at HGi HJI hni HCS
      clear hca e0 hti
      generalize A.hd (A.idxs.getD i 0) = hx at *
      obtain ⟨tp, ts', tn, tf, ⟨kg, ko, kn, kd, kc, kt⟩⟩ := t
      dsimp only at HGi HJI hni
      have HNI := Lib.hid hni
      have HTW := Lib.hid (fun W (hb : Below w.heap.size w W) => jtwin tp (.slice p0 tn c0) tn tf ⟨kg, ko, kn, kd, kc, kt⟩ W (HJI.out.below hb) (by omega))
      clear hni
      go_wp2_with fail
      refine HGi.out.mono ?_
      rintro e w3 ⟨rfl, hb3⟩
      have HB3 := Lib.hid hb3
      clear hb3 hca1 hc1
      obtain ⟨W3, hW3⟩ : ∃ W3, W3 = w3.alloc (.cells #[.int .i64 tp, .slice p0 tn c0, .int .i64 kg, .int .i64 ko, .int .i64 kn, .int .i64 kd, .int .i64 kc, .int .i64 kt] KT) := ⟨_, rfl⟩
      have HT3 := Lib.hid (show HasT W3 w3.heap.size tp (.slice p0 tn c0) ⟨kg, ko, kn, kd, kc, kt⟩ ∧ Below wr.heap.size wr W3 from by rw [hW3]; exact ⟨hasT_new w3 tp _ ⟨kg, ko, kn, kd, kc, kt⟩, HB3.out.alloc HB3.out.size _⟩)
      have HW3 := Lib.hid hW3
      clear hW3
      go_upto_region 10 with fail
      rw [← HW3.out]
      obtain ⟨x0, x1, x2, x3, x4, x5, x6, x7⟩ := HT3.out.1.cells
      go_wp2_with fail
      refine (HTW.out W3 (bnext HBT.out HT3.out.2)).mono ?_
      rintro e w5 ⟨y, rfl, s5, c5, rfl, ho5, hb5⟩
      have HB5 := Lib.hid (bnext HT3.out.2 hb5)
      have HO5 := Lib.hid ho5
      obtain ⟨sr, ho, hj, hbr⟩ := HS.out
      have HJR := Lib.hid hj
      have HLW := Lib.hid (show w.heap.size ≤ g ∧ g < wr.heap.size ∧ wr.heap.size ≤ W3.heap.size from ⟨(ho.lt g rfl).1, (ho.lt g rfl).2, HT3.out.2.size⟩)
      have HR5 := Lib.hid (own_under ho HB5.out)
      have u := fun (r : Nat) (hr : r < 8) => (World.ownsRow.cellAt HR5.out (i * 8 + r) (by omega)).trans (tkL_at (tm (cutF (toldF A T) i) sr) him r hr)
      have u0 := u 0 (by omega)
      have u1 := u 1 (by omega)
      have u2 := u 2 (by omega)
      have u3 := u 3 (by omega)
      have u4 := u 4 (by omega)
      have u5 := u 5 (by omega)
      have u6 := u 6 (by omega)
      have u7 := u 7 (by omega)
      rw [Nat.add_zero] at u0
      have fr := fun j => World.ownsRow.frozenAt HR5.out j
      generalize prtT (tm (cutF (toldF A T) i) sr i) 0 = y0 at *
      generalize prtT (tm (cutF (toldF A T) i) sr i) 1 = y1 at *
      generalize prtT (tm (cutF (toldF A T) i) sr i) 2 = y2 at *
      generalize prtT (tm (cutF (toldF A T) i) sr i) 3 = y3 at *
      generalize prtT (tm (cutF (toldF A T) i) sr i) 4 = y4 at *
      generalize prtT (tm (cutF (toldF A T) i) sr i) 5 = y5 at *
      generalize prtT (tm (cutF (toldF A T) i) sr i) 6 = y6 at *
      generalize prtT (tm (cutF (toldF A T) i) sr i) 7 = y7 at *
      clear u ho5 hb5 x0 x1 x2 x3 x4 x5 x6 x7 ho hj hbr
      go_wp2_with fail
      go_roundw
      case rel =>
        refine ⟨i + 1, by go_num, by omega, Lib.hid ⟨upd sr i (.slice s5 tn c5), ?_, fun j hj => ?_, ?_⟩, Lib.hid (below_set8 (bnext HBW.out HB5.out) (by have := HGG.out; omega) _ _ _ _ _ _ _ _ _)⟩
        · rw [HCS.out, tm_upd]
          exact own_set8 HR5.out i ⟨tp, .slice s5 tn c5, tn, tf, ⟨kg, ko, kn, kd, kc, kt⟩⟩
        · rw [HCS.out]
          by_cases e : j = i
          · subst e
            rw [upd_same, upd_same]
            have h1 : JobsX (fun x => x = g) w5 (.slice s5 tn c5) tn tf := JobsX.own HO5.out (by have := HNI.out; omega) (fun x hx => by have := HLW.out; simp; omega)
            exact h1.keeps (far8 (Keeps.refl (fun x => x = g) w5) g j _ _ _ _ _ _ _ _ (.inl rfl)) (fun _ h => h)
          · rw [upd_ne _ e, upd_ne _ e]
            exact ((HJR.out j hj).below HB5.out).keeps (far8 (Keeps.refl (fun x => x = g) w5) g i _ _ _ _ _ _ _ _ (.inl rfl)) (fun _ h => h)
        · exact below_set8 (bnext HBT.out HB5.out) HLW.out.1 _ _ _ _ _ _ _ _ _
      case measure => simp [intOf]; omega
    · obtain rfl : i = m := by omega
      have HF := Lib.hid (HS.out.fin (by omega))
      have hl1 := (HBT.out.cell (p := ⟨bl, 1, none⟩) (cell_lt HCL.out)).trans HCL.out
      have HLL := Lib.hid (⟨HL1.out.below (bnext HB2'.out HBW.out), HL2.out.below (bnext HB2'.out HBW.out)⟩ : _ ∧ _)
      have hc1 := (HBT.out.cell (p := ⟨bl, 0, none⟩) (cell_lt HC.out)).trans HC.out
      have em := HM.out
      subst em
      go_wp2_with fail
      go_region
      all_goals
        go_wp2_with fail
        refine bodyPost_ret (v := .tuple #[gs, ts, .slice (some ⟨g, 0, none⟩) A.idxs.length A.idxs.length, .int .i64 la]) (by simp [results, Tryz.results30, go_sem]) rfl ?_
        obtain ⟨⟨sf, hf⟩, hbf⟩ := HF.out
        exact ⟨gs, ts, g, A.idxs.length, sf, rfl, HLL.out.1.below below_drewOne, HLL.out.2.below below_drewOne, hf.below below_drewOne, hbf.drew⟩
end Go.Proofs.YtedgchafligndaaGreat
/- The document's own pool: twin, a pool with memory of its own; no condition but those that each row names. -/
namespace Go.Proofs.YtedgchafligndaaGreat
open Go.RowKit Tsk

/-- Three rows of the call's own, none the other, jobs in none of them and in nothing that was there. -/
structure Own14 (B : Nat) (w : World) (gl : List Int) (tl : List Bool) (T : Nat → Tk) (gs ts ks : Value) (sl : Nat → Value) : Prop where
  g : w.ownsRow B 3 1 gs 16 (ints gl)
  t : w.ownsRow B 4 1 ts 16 (bools tl)
  k : w.ownsRow B KT 8 ks 16 (tkL (tm T sl) 16)
  j : ∀ i, i < 16 → JobsX (fun x => x < B ∨ gs.ownBlock = some x ∨ ts.ownBlock = some x ∨ ks.ownBlock = some x) w (sl i) (T i).n (T i).f
  n12 : gs.ownBlock ≠ ts.ownBlock
  n13 : gs.ownBlock ≠ ks.ownBlock
  n23 : ts.ownBlock ≠ ks.ownBlock
theorem arr4_0 (u0 u1 u2 u3 v : Value) : #[u0, u1, u2, u3].setIfInBounds 0 v = #[v, u1, u2, u3] := by rw [← Array.toList_inj, Array.toList_setIfInBounds]; rfl
theorem arr4_1 (u0 u1 u2 u3 v : Value) : #[u0, u1, u2, u3].setIfInBounds 1 v = #[u0, v, u2, u3] := by rw [← Array.toList_inj, Array.toList_setIfInBounds]; rfl
theorem arr4_2 (u0 u1 u2 u3 v : Value) : #[u0, u1, u2, u3].setIfInBounds 2 v = #[u0, u1, v, u3] := by rw [← Array.toList_inj, Array.toList_setIfInBounds]; rfl
theorem arr4_3 (u0 u1 u2 u3 v : Value) : #[u0, u1, u2, u3].setIfInBounds 3 v = #[u0, u1, u2, v] := by rw [← Array.toList_inj, Array.toList_setIfInBounds]; rfl
theorem HasP.set0 {W : World} {g : Nat} {gs ts ks v : Value} {last : Int} (h : HasP W g gs ts ks last) : HasP (W.setCell ⟨g, 0, none⟩ v) g v ts ks last := by have a := has_set h 0 v; rwa [arr4_0] at a
theorem HasP.set1 {W : World} {g : Nat} {gs ts ks v : Value} {last : Int} (h : HasP W g gs ts ks last) : HasP (W.setCell ⟨g, 1, none⟩ v) g gs v ks last := by have a := has_set h 1 v; rwa [arr4_1] at a
theorem HasP.set2 {W : World} {g : Nat} {gs ts ks v : Value} {last : Int} (h : HasP W g gs ts ks last) : HasP (W.setCell ⟨g, 2, none⟩ v) g gs ts v last := by have a := has_set h 2 v; rwa [arr4_2] at a
theorem HasP.set3 {W : World} {g : Nat} {gs ts ks : Value} {last z : Int} (h : HasP W g gs ts ks last) : HasP (W.setCell ⟨g, 3, none⟩ (.int .i64 z)) g gs ts ks z := by have a := has_set h 3 (.int .i64 z); rwa [arr4_3] at a
/-- Where twin stands: its three blocks, all that was there as it was. -/
structure TwS (w : World) (p q r : Option Addr) (cp cq cr : Nat) (last : Int) (gs ts ks : Value) (W : World) : Prop where
  bel : Below w.heap.size w W
  hp : HasP W w.heap.size (.slice p 16 cp) (.slice q 16 cq) (.slice r 16 cr) last
  hz : HasP W (w.heap.size + 1) (.slice none 0 0) (.slice none 0 0) (.slice none 0 0) 0
  hq : HasP W (w.heap.size + 2) gs ts ks last
theorem TwS.under {w W W' : World} {p q r : Option Addr} {cp cq cr : Nat} {last : Int} {gs ts ks : Value} (h : TwS w p q r cp cq cr last gs ts ks W) (hb : Below W.heap.size W W') : TwS w p q r cp cq cr last gs ts ks W' :=
  ⟨bnext h.bel hb, h.hp.below hb, h.hz.below hb, h.hq.below hb⟩
theorem TwS.st0 {w W : World} {p q r : Option Addr} {cp cq cr : Nat} {last : Int} {gs ts ks v : Value} (h : TwS w p q r cp cq cr last gs ts ks W) : TwS w p q r cp cq cr last v ts ks (W.setCell ⟨w.heap.size + 2, 0, none⟩ v) :=
  ⟨below_low h.bel _ _ (by show w.heap.size ≤ w.heap.size + 2; omega), has_other h.hp _ _ (by show w.heap.size + 2 ≠ _; omega), has_other h.hz _ _ (by show w.heap.size + 2 ≠ _; omega), h.hq.set0⟩
theorem TwS.st1 {w W : World} {p q r : Option Addr} {cp cq cr : Nat} {last : Int} {gs ts ks v : Value} (h : TwS w p q r cp cq cr last gs ts ks W) : TwS w p q r cp cq cr last gs v ks (W.setCell ⟨w.heap.size + 2, 1, none⟩ v) :=
  ⟨below_low h.bel _ _ (by show w.heap.size ≤ w.heap.size + 2; omega), has_other h.hp _ _ (by show w.heap.size + 2 ≠ _; omega), has_other h.hz _ _ (by show w.heap.size + 2 ≠ _; omega), h.hq.set1⟩
theorem TwS.st2 {w W : World} {p q r : Option Addr} {cp cq cr : Nat} {last : Int} {gs ts ks v : Value} (h : TwS w p q r cp cq cr last gs ts ks W) : TwS w p q r cp cq cr last gs ts v (W.setCell ⟨w.heap.size + 2, 2, none⟩ v) :=
  ⟨below_low h.bel _ _ (by show w.heap.size ≤ w.heap.size + 2; omega), has_other h.hp _ _ (by show w.heap.size + 2 ≠ _; omega), has_other h.hz _ _ (by show w.heap.size + 2 ≠ _; omega), h.hq.set2⟩
/-- The rows while tasks are copied. -/
structure TwL (w : World) (A : Tab) (T : Nat → Tk) (i : Nat) (gs ts kv : Value) (sr : Nat → Value) (W : World) : Prop where
  rg : W.ownsRow (w.heap.size + 3) 3 1 gs 16 (ints A.gens)
  rt : W.ownsRow (w.heap.size + 3) 4 1 ts 16 (bools A.taken)
  rk : W.ownsRow (w.heap.size + 3) KT 8 kv i (tkL (tm T sr) i)
  j : ∀ j, j < i → JobsX (fun x => x < w.heap.size + 3 ∨ gs.ownBlock = some x ∨ ts.ownBlock = some x) W (sr j) (T j).n (T j).f ∧ NotIn (sr j) kv.ownBlock
  n12 : gs.ownBlock ≠ ts.ownBlock
  n13 : gs.ownBlock ≠ kv.ownBlock
  n23 : ts.ownBlock ≠ kv.ownBlock
theorem TwL.under {w W W' : World} {A : Tab} {T : Nat → Tk} {i : Nat} {gs ts kv : Value} {sr : Nat → Value} (h : TwL w A T i gs ts kv sr W) (hb : Below W.heap.size W W') : TwL w A T i gs ts kv sr W' :=
  ⟨own_under h.rg hb, own_under h.rt hb, own_under h.rk hb, fun j hj => ⟨(h.j j hj).1.below hb, (h.j j hj).2⟩, h.n12, h.n13, h.n23⟩
theorem TwL.low {w W : World} {A : Tab} {T : Nat → Tk} {i : Nat} {gs ts kv : Value} {sr : Nat → Value} (h : TwL w A T i gs ts kv sr W) (p : Addr) (u : Value) (hp : p.block < w.heap.size + 3) : TwL w A T i gs ts kv sr (W.setCell p u) :=
  ⟨own_low h.rg _ _ hp, own_low h.rt _ _ hp, own_low h.rk _ _ hp, fun j hj => ⟨(h.j j hj).1.keeps ((Keeps.refl (fun x => x = p.block) W).setS p u rfl) (fun x e => .inl (by omega)), (h.j j hj).2⟩, h.n12, h.n13, h.n23⟩
theorem tkL_upd (T : Nat → Tk) (sr : Nat → Value) (i : Nat) (s : Value) : tkL (tm T (upd sr i s)) (i + 1) = tkL (tm T sr) i ++ [.int .i64 (T i).p, s, .int .i64 (T i).k.g, .int .i64 (T i).k.o, .int .i64 (T i).k.n, .int .i64 (T i).k.d, .int .i64 (T i).k.c, .int .i64 (T i).k.t] := by
  rw [tkL_succ, tkL_congr (T' := tm T sr) (fun j hj => by unfold tm; rw [upd_ne _ (by omega)])]
  unfold tm
  rw [upd_same]
theorem TwL.step {w W W4 w5 : World} {A : Tab} {T : Nat → Tk} {i : Nat} {gs ts kv : Value} {sr : Nat → Value} (h : TwL w A T i gs ts kv sr W) {s : Value} (hb : Below W.heap.size W W4) (hs : JobsO W.heap.size W4 s (T i).n (T i).f) (hn : (T i).n ≤ 9223372036854775807) (hw : w.heap.size + 3 ≤ W.heap.size)
    {pn : Option Addr} {c : Nat} (ho : w5.ownsRow (w.heap.size + 3) KT 8 (.slice pn (i + 1) c) (i + 1) (tkL (tm T (upd sr i s)) (i + 1))) (hg : W4.grownBy w5 kv.ownBlock) (ha : ∀ g, (Value.slice pn (i + 1) c).ownBlock = some g → kv.ownBlock = some g ∨ W4.heap.size ≤ g) : TwL w A T (i + 1) gs ts (.slice pn (i + 1) c) (upd sr i s) w5 := by
  have h4 := h.under hb
  have hlg := fun g e => (World.ownsRow.lt h4.rg g e)
  have hlt := fun g e => (World.ownsRow.lt h4.rt g e)
  have hlk := fun g e => (World.ownsRow.lt h4.rk g e)
  have hlk0 := fun g e => (World.ownsRow.lt h.rk g e)
  have hbs := hb.size
  obtain ⟨g0, _, e0, _, _, _⟩ := own_block2 ho (by omega)
  have hk0 : (Value.slice pn (i + 1) c).ownBlock = some g0 := by rw [e0]; rfl
  have hnew : ∀ {v : Value}, v.ownBlock ≠ kv.ownBlock → (∀ g, v.ownBlock = some g → g < W4.heap.size) → v.ownBlock ≠ (Value.slice pn (i + 1) c).ownBlock := fun h1 h2 e => by
    rw [hk0] at e
    rcases ha g0 hk0 with q | q
    · exact h1 (by rw [e, q])
    · have := h2 g0 e; omega
  refine ⟨World.ownsRow.kept h4.rg hg (.inr h4.n13), World.ownsRow.kept h4.rt hg (.inr h4.n23), ho, fun j hj => ?_, h.n12, hnew h.n13 (fun g e => (hlg g e).2), hnew h.n23 (fun g e => (hlt g e).2)⟩
  by_cases e : j = i
  · subst e
    rw [upd_same]
    have hni : NotIn s kv.ownBlock := NotIn.new hs (fun b e => (hlk0 b e).2)
    have hj1 : JobsX (fun x => x < w.heap.size + 3 ∨ gs.ownBlock = some x ∨ ts.ownBlock = some x) W4 s (T j).n (T j).f := JobsX.own hs hn (fun x hx => by
      rcases hx with hx | hx | hx
      · omega
      · exact (World.ownsRow.lt h.rg x hx).2
      · exact (World.ownsRow.lt h.rt x hx).2)
    refine ⟨⟨hj1.1.grown hg hni, hj1.2⟩, fun a n' c' e hn e2 => ?_⟩
    rcases ha a.block e2 with q | q
    · exact hni a n' c' e hn q
    · have := hj1.1.lt a n' c' e hn
      omega
  · rw [upd_ne _ e]
    obtain ⟨k1, k2⟩ := h4.j j (by omega)
    refine ⟨⟨k1.1.grown hg k2, k1.2⟩, fun a n' c' e hn e2 => ?_⟩
    rcases ha a.block e2 with q | q
    · exact k2 a n' c' e hn q
    · have := k1.1.lt a n' c' e hn
      omega
theorem TwL.fin {w W : World} {A : Tab} {T : Nat → Tk} {gs ts kv : Value} {sr : Nat → Value} (h : TwL w A T 16 gs ts kv sr W) : Own14 w.heap.size W A.gens A.taken T gs ts kv sr :=
  ⟨own_base2 h.rg (by omega), own_base2 h.rt (by omega), own_base2 h.rk (by omega), fun i hi => ⟨(h.j i hi).1.1, fun a n c e h0 k => by
    rcases k with k | k | k | k
    · exact (h.j i hi).1.2 a n c e h0 (.inl (by omega))
    · exact (h.j i hi).1.2 a n c e h0 (.inr (.inl k))
    · exact (h.j i hi).1.2 a n c e h0 (.inr (.inr k))
    · exact (h.j i hi).2 a n c e (by
        obtain ⟨p0, c0, e0, _⟩ := (h.j i hi).1.1
        rw [e] at e0
        cases e0
        exact h0) k⟩, h.n12, h.n13, h.n23⟩
theorem TwS.grown {w W W' : World} {p q r : Option Addr} {cp cq cr : Nat} {last : Int} {gs ts ks : Value} {row : Option Nat} (h : TwS w p q r cp cq cr last gs ts ks W) (hg : W.grownBy W' row) (hr : ∀ g, row = some g → w.heap.size + 3 ≤ g) : TwS w p q r cp cq cr last gs ts ks W' := by
  have k := fun (b : Nat) (hb : b < w.heap.size + 3) (hl : b < W.heap.size) => hg.block b hl (fun e => by have := hr b e.symm; omega)
  exact ⟨h.bel.grown hg h.bel.size (fun g e => by have := hr g e; omega), (k _ (by omega) (has_lt h.hp)).trans h.hp, (k _ (by omega) (has_lt h.hz)).trans h.hz, (k _ (by omega) (has_lt h.hq)).trans h.hq⟩
/-- What twin answers. -/
def TwinP (w : World) (A : Tab) (T : Nat → Tk) (last : Int) (e : Ending) (w' : World) : Prop :=
  ∃ gs ts ks sl, e = .returned (pv gs ts ks last) ∧ Own14 w.heap.size w' A.gens A.taken T gs ts ks sl ∧ Below w.heap.size w w'
set_option maxHeartbeats 4000000 in
set_option maxRecDepth 100000 in
theorem rtwin14 (X : Nat → Prop) (A : Tab) (T : Nat → Tk) (last : Int) (hg : PGood A T last) (gs ts ks : Value) (w : World) (h : DP X w A T gs ts ks) :
    Calls Tryz.prog 64 #[pv gs ts ks last] w (TwinP w A T last) := by
  obtain ⟨i0, hi, hz0, hz1, hz2⟩ := info_parts Tryz.info3
  obtain ⟨j0, ji, jz0, jz1, jz2⟩ := info_parts Tryz.info4
  obtain ⟨k0, ki, kz0, kz1, kz2⟩ := info_parts Tryz.infTk
  have HOK := Lib.hid hg.ok
  have HGL := Lib.hid (⟨hg.len, hg.tab.lt⟩ : A.gens.length = 16 ∧ A.taken.length = A.gens.length)
  obtain ⟨p, cp, q, cq, r, cr, sl, rfl, rfl, rfl, hcg, hct, hT⟩ := h.shape hg
  have HCG := Lib.hid hcg
  have HCT := Lib.hid hct
  have HTX := Lib.hid hT.tk
  obtain ⟨WA, hWA⟩ : ∃ WA, WA = (w.alloc (.cells #[.slice p 16 cp, .slice q 16 cq, .slice r 16 cr, .int .i64 last] PT14)).alloc (.cells #[.slice none 0 0, .slice none 0 0, .slice none 0 0, .int .i64 0] PT14) := ⟨_, rfl⟩
  have HB := Lib.hid (show Below w.heap.size w WA ∧ WA.heap.size = w.heap.size + 2 from by rw [hWA]; exact ⟨((Below.refl _ _).alloc (Nat.le_refl _) _).alloc (by simp) _, by simp⟩)
  have HT := Lib.hid (show HasP WA w.heap.size (.slice p 16 cp) (.slice q 16 cq) (.slice r 16 cr) last ∧ HasP WA (w.heap.size + 1) (.slice none 0 0) (.slice none 0 0) (.slice none 0 0) 0 from by rw [hWA]; exact ⟨has_old (hasP_new _ _ _ _ _) _, has_new _ _ _ (by simp)⟩)
  have HW := Lib.hid hWA
  clear hWA h hg hcg hct hT
  go_enter Tryz.func64, Tryz.ntmps64
  go_upto_region 1 with fail
  rw [← HW.out]
  obtain ⟨a0, a1, a2, a3⟩ := HT.out.1.cells
  have HGN := Lib.hid (show ∀ W, Below w.heap.size w W → ∃ b off, p = some ⟨b, off, none⟩ ∧ ∀ j u, (ints A.gens)[j]? = some u → W.cell? ((⟨b, off, none⟩ : Addr).add j) = some u from fun W hb => by
    obtain ⟨b, off, e, _⟩ := HCG.out W hb 0 (by omega)
    refine ⟨b, off, e, fun j u hu => ?_⟩
    have hj : j < 16 := by have := (List.getElem?_eq_some_iff.1 hu).1; rw [ints_len, HGL.out.1] at this; exact this
    obtain ⟨b', off', e', hc⟩ := HCG.out W hb j hj
    rw [e] at e'
    cases e'
    rw [ints_at (by have := HGL.out.1; omega)] at hu
    cases hu
    rw [addr_plus]
    exact hc)
  have HTN := Lib.hid (show ∀ W, Below w.heap.size w W → ∃ b off, q = some ⟨b, off, none⟩ ∧ ∀ j u, (bools A.taken)[j]? = some u → W.cell? ((⟨b, off, none⟩ : Addr).add j) = some u from fun W hb => by
    obtain ⟨b, off, e, _⟩ := HCT.out W hb 0 (by omega)
    refine ⟨b, off, e, fun j u hu => ?_⟩
    have hj : j < 16 := by have := (List.getElem?_eq_some_iff.1 hu).1; rw [bools_len, HGL.out.2, HGL.out.1] at this; exact this
    obtain ⟨b', off', e', hc⟩ := HCT.out W hb j hj
    rw [e] at e'
    cases e'
    rw [bools_at (by have := HGL.out; omega)] at hu
    cases hu
    rw [addr_plus]
    exact hc)
  obtain ⟨b1, o1, rfl, _⟩ := HGN.out WA HB.out.1
  obtain ⟨b2, o2, rfl, _⟩ := HTN.out WA HB.out.1
  go_upto_region 2 with fail
  obtain ⟨W0, hW0⟩ : ∃ W0, W0 = WA.alloc (.cells #[.slice none 0 0, .slice none 0 0, .slice none 0 0, .int .i64 last] PT14) := ⟨_, rfl⟩
  have HS0 := Lib.hid (show TwS w (some ⟨b1, o1, none⟩) (some ⟨b2, o2, none⟩) r cp cq cr last (.slice none 0 0) (.slice none 0 0) (.slice none 0 0) W0 ∧ W0.heap.size = w.heap.size + 3 from by
    have hs := HB.out.2
    rw [hW0]
    exact ⟨⟨HB.out.1.alloc HB.out.1.size _, has_old HT.out.1 _, has_old HT.out.2 _, by have := hasP_new WA (.slice none 0 0) (.slice none 0 0) (.slice none 0 0) last; rwa [hs] at this⟩, by simp; omega⟩)
  rw [← hW0]
  rw [show WA.heap.size = w.heap.size + 2 from HB.out.2]
  clear hW0 a0 a1 a2 a3
  obtain ⟨a0, a1, a2, a3⟩ := HS0.out.1.hp.cells
  obtain ⟨x0, x1, x2, x3⟩ := HS0.out.1.hq.cells
  have fx := fun j => has_free HS0.out.1.hq j
  have hln := HGL.out.1
  have hs0 := HS0.out.2
  go_wp2_with (at_builtin; refine wpList_append_own _ rfl _ _ 22 rfl (w.heap.size + 3) 3 i0 (.int .i64 0) 1 8 Tryz.underlying22 hi hz0 hz1 hz2 rfl (by decide) (.slice none 0 0) 0 [] rfl (World.ownsRow_nil _ _ _ _) ⟨b1, o1, none⟩ 16 cp (ints A.gens) rfl (by rw [ints_len]; omega) ?a1 ints_one (by unfold maxLen; omega) (by omega) (by omega) ?_)
  case a1 =>
    obtain ⟨b, o, e, hh⟩ := HGN.out W0 HS0.out.1.bel
    cases e
    exact hh
  intro vg w1 ho1 hg1 ha1
  obtain ⟨pg, cg, rfl⟩ := own_slice ho1
  have HO1 := Lib.hid (show w1.ownsRow (w.heap.size + 3) 3 1 (.slice pg 16 cg) 16 (ints A.gens) from by simpa using ho1)
  have HS1 := Lib.hid (HS0.out.1.under (below_of_grown hg1))
  have hs1 := (below_of_grown hg1).size
  have HZ1 := Lib.hid (show w.heap.size + 3 ≤ w1.heap.size from by omega)
  clear ho1 hg1 ha1 a0 a1 a2 a3 x0 x1 x2 x3 fx hs0 hs1
  obtain ⟨x0, x1, x2, x3⟩ := HS1.out.hq.cells
  have fx := fun j => has_free HS1.out.hq j
  go_upto_region 3 with fail
  obtain ⟨W2, hW2⟩ : ∃ W2, W2 = w1.setCell ⟨w.heap.size + 2, 0, none⟩ (.slice pg 16 cg) := ⟨_, rfl⟩
  rw [← hW2]
  have HS2 := Lib.hid (show TwS w (some ⟨b1, o1, none⟩) (some ⟨b2, o2, none⟩) r cp cq cr last (.slice pg 16 cg) (.slice none 0 0) (.slice none 0 0) W2 ∧ w.heap.size + 3 ≤ W2.heap.size ∧ W2.ownsRow (w.heap.size + 3) 3 1 (.slice pg 16 cg) 16 (ints A.gens) from by rw [hW2]; exact ⟨HS1.out.st0, by have := HZ1.out; simp [World.setCell]; omega, own_low HO1.out _ _ (by show w.heap.size + 2 < _; omega)⟩)
  clear hW2 x0 x1 x2 x3 fx
  obtain ⟨a0, a1, a2, a3⟩ := HS2.out.1.hp.cells
  obtain ⟨x0, x1, x2, x3⟩ := HS2.out.1.hq.cells
  have fx := fun j => has_free HS2.out.1.hq j
  have hs2 := HS2.out.2.1
  have hlt := HGL.out.2
  go_wp2_with (at_builtin; refine wpList_append_own_at _ rfl _ _ 23 rfl (w.heap.size + 3) 4 j0 (.bool false) 1 1 Tryz.underlying23 ji jz0 jz1 jz2 rfl (by decide) (.slice none 0 0) 0 [] rfl (World.ownsRow_nil _ _ _ _) ⟨b2, o2, none⟩ 16 cq (bools A.taken) rfl (by rw [bools_len]; omega) ?a1 bools_one (by unfold maxLen; omega) (by omega) (by omega) ?_)
  case a1 =>
    obtain ⟨b, o, e, hh⟩ := HTN.out W2 HS2.out.1.bel
    cases e
    exact hh
  intro vg w3 ho3 hg3 _ ha3
  obtain ⟨pt, ct, rfl⟩ := own_slice ho3
  have HO3 := Lib.hid (show w3.ownsRow (w.heap.size + 3) 4 1 (.slice pt 16 ct) 16 (bools A.taken) from by simpa using ho3)
  have HG3 := Lib.hid (own_under HS2.out.2.2 (below_of_grown hg3))
  have HN3 := Lib.hid (show (Value.slice pg 16 cg).ownBlock ≠ (Value.slice pt 16 ct).ownBlock from fun e => by
    obtain ⟨g, _, e1, _, _, hgl⟩ := own_block2 HS2.out.2.2 (by omega)
    have e2 : (Value.slice pg 16 cg).ownBlock = some g := by rw [e1]; rfl
    rw [e2] at e
    rcases ha3 with q | q
    · rw [q] at e; cases e
    · rw [q] at e; cases e; omega)
  have HS3 := Lib.hid (HS2.out.1.under (below_of_grown hg3))
  have hs3 := (below_of_grown hg3).size
  have HZ3 := Lib.hid (show w.heap.size + 3 ≤ w3.heap.size from by omega)
  clear ho3 hg3 ha3 a0 a1 a2 a3 x0 x1 x2 x3 fx hs2 hs3
  obtain ⟨x0, x1, x2, x3⟩ := HS3.out.hq.cells
  have fx := fun j => has_free HS3.out.hq j
  go_upto_region 4 with fail
  obtain ⟨W4, hW4⟩ : ∃ W4, W4 = w3.setCell ⟨w.heap.size + 2, 1, none⟩ (.slice pt 16 ct) := ⟨_, rfl⟩
  rw [← hW4]
  have hgo : ∃ g, (Value.slice pg 16 cg).ownBlock = some g := by
    obtain ⟨g, _, e1, _⟩ := own_block2 HG3.out (by omega)
    exact ⟨g, by rw [e1]; rfl⟩
  have hto : ∃ g, (Value.slice pt 16 ct).ownBlock = some g := by
    obtain ⟨g, _, e1, _⟩ := own_block2 HO3.out (by omega)
    exact ⟨g, by rw [e1]; rfl⟩
  have HS4 := Lib.hid (show TwS w (some ⟨b1, o1, none⟩) (some ⟨b2, o2, none⟩) r cp cq cr last (.slice pg 16 cg) (.slice pt 16 ct) (.slice none 0 0) W4 ∧ w.heap.size + 3 ≤ W4.heap.size ∧ TwL w A T 0 (.slice pg 16 cg) (.slice pt 16 ct) (.slice none 0 0) (fun _ => .slice none 0 0) W4 from by
    have h9 : w.heap.size + 2 < w.heap.size + 3 := by omega
    refine ⟨by rw [hW4]; exact HS3.out.st1, by rw [hW4]; have := HZ3.out; simp [World.setCell]; omega, ⟨by rw [hW4]; exact own_low HG3.out _ _ h9, by rw [hW4]; exact own_low HO3.out _ _ h9, World.ownsRow_nil _ _ _ _, fun j hj => by omega, HN3.out, ?_, ?_⟩⟩
    · obtain ⟨g, e⟩ := hgo
      rw [e]
      exact fun e => by cases e
    · obtain ⟨g, e⟩ := hto
      rw [e]
      exact fun e => by cases e)
  clear hW4 hgo hto x0 x1 x2 x3 fx
  go_wp2_with fail
  go_loopw [4] (fun iv wr => ∃ (i : Nat) (kv : Value) (sr : Nat → Value), iv = .int .i64 i ∧ i ≤ 16 ∧ Hid (TwS w (some ⟨b1, o1, none⟩) (some ⟨b2, o2, none⟩) r cp cq cr last (.slice pg 16 cg) (.slice pt 16 ct) kv wr) ∧ Hid (TwL w A T i (.slice pg 16 cg) (.slice pt 16 ct) kv sr wr)) (fun iv _ => 16 - (intOf iv).toNat)
  case atStart => exact ⟨0, _, _, rfl, by omega, Lib.hid HS4.out.1, Lib.hid HS4.out.2.2⟩
  case round =>
    clear HS4
    obtain ⟨i, kv, sr, rfl, hi16, HS, HLW⟩ := hrel
    obtain ⟨pkv, ckv, hkv, _⟩ := own_small HLW.out.rk
    subst hkv
    obtain ⟨a0, a1, a2, a3⟩ := HS.out.hp.cells
    obtain ⟨x0, x1, x2, x3⟩ := HS.out.hq.cells
    have z0 : (0 : Int) ≤ (i : Int) := by omega
    by_cases hlt : i < 16
    · have z1 : (i : Int) < 16 := by omega
      obtain ⟨_, _, e, _, hc⟩ := HTX.out.below HS.out.bel
      simp only [Value.slice.injEq] at e
      obtain ⟨bk, ok, e2, d0, d1, d2, d3, d4, d5, d6, d7, hJ⟩ := hc i hlt
      have e3 : r = some ⟨bk, ok, none⟩ := by rw [e.1]; exact e2
      subst e3
      obtain ⟨s1, cs1, hs1, _⟩ := id hJ
      dsimp only [tm] at d0 d1 d2 d3 d4 d5 d6 d7 hs1 hJ
      have HST := Lib.hid (fun s W4 w5 (hb : Below wr.heap.size wr W4) (hs : JobsO wr.heap.size W4 s (T i).n (T i).f) (hw : w.heap.size + 3 ≤ wr.heap.size) pn c ho hg ha => HLW.out.step (W4 := W4) (w5 := w5) (s := s) (pn := pn) (c := c) hb hs (by have := (HOK.out i).2.1; omega) hw ho hg ha)
      have HUR := Lib.hid (fun s => tkL_upd T sr i s)
      have HTW := Lib.hid (rtwin (T i).p (sl i) (T i).n (T i).f (T i).k wr.drew (hJ.below below_drewOne) (by have := (HOK.out i).2.1; omega))
      have hni := (HOK.out i).2.1
      obtain ⟨t, ht⟩ : ∃ t, t = T i := ⟨_, rfl⟩
      rw [← ht] at d0 d2 d3 d4 d5 d6 d7 HST HUR HTW hs1 hni
      clear ht hJ hc e e2
      obtain ⟨tp, ts0, tn, tf, ⟨kg, ko, kn, kd, kc, kt⟩⟩ := t
      generalize sl i = si at *
      dsimp only at d0 d1 d2 d3 d4 d5 d6 d7 HST HUR HTW hs1
      subst hs1
      have HTW2 := Lib.hid HTW.out
      have hbk : bk < wr.heap.size := cell_lt d0
      have HD := Lib.hid (⟨d0, d1, d2, d3, d4, d5, d6, d7⟩ : _ ∧ _ ∧ _ ∧ _ ∧ _ ∧ _ ∧ _ ∧ _)
      have HCE := Lib.hid (fun W (hb : Below wr.heap.size wr W) => show _ ∧ _ ∧ _ from ⟨HasP.cells (HS.out.hp.below hb), HasP.cells (HS.out.hq.below hb), (show _ ∧ _ ∧ _ ∧ _ ∧ _ ∧ _ ∧ _ ∧ _ from by
        have kk := fun (o : Nat) => hb.cell (p := ⟨bk, o, none⟩) hbk
        obtain ⟨d0, d1, d2, d3, d4, d5, d6, d7⟩ := HD.out
        exact ⟨(kk _).trans d0, (kk _).trans d1, (kk _).trans d2, (kk _).trans d3, (kk _).trans d4, (kk _).trans d5, (kk _).trans d6, (kk _).trans d7⟩)⟩)
      have HLS := Lib.hid (show w.heap.size + 3 ≤ wr.heap.size from by
        obtain ⟨g, _, _, _, h1, h2⟩ := own_block2 HLW.out.rg (by omega)
        omega)
      have hls := HLS.out
      have HLTF := Lib.hid (fun (W : World) (hb : Below wr.heap.size wr W) => show w.heap.size + 2 < W.heap.size ∧ w.heap.size < W.heap.size ∧ bk < W.heap.size from by have h1 := hb.size; have h2 := HLS.out; exact ⟨by omega, by omega, by omega⟩)
      have HS5F := Lib.hid (fun W4 w5 (hb : Below wr.heap.size wr W4) (hg : World.grownBy W4 w5 (Value.slice pkv i ckv).ownBlock) => (HS.out.under hb).grown hg (fun g e => (World.ownsRow.lt HLW.out.rk g e).1))
      clear HTW HD
      go_upto_region 7 with fail
      go_region_law (first
          | (go_simp; go_at_call 5; refine HTW2.out.mono ?_; rintro e w4 ⟨xv, rfl, s4, c4, rfl, hj4, hb4⟩; have HJ4 := Lib.hid hj4; have HB4 := Lib.hid (bnext below_drewOne hb4); obtain ⟨⟨a0, a1, a2, a3⟩, ⟨x0, x1, x2, x3⟩, d0, d1, d2, d3, d4, d5, d6, d7⟩ := HCE.out w4 (bnext below_drewOne hb4); have hs4 := HB4.out.size; have hz4 := HLTF.out _ HB4.out; obtain ⟨hz4, hz5, hz6⟩ := hz4; clear hj4 hb4)
          | (refine step_append_lies _ (by rfl) _ _ 24 (by rfl) (w.heap.size + 3) KT k0 (.agg #[.int .i64 0, .slice none 0 0, .int .i64 0, .int .i64 0, .int .i64 0, .int .i64 0, .int .i64 0, .int .i64 0]) 8 80 Tryz.underlying24 ki kz0 kz1 kz2 rfl (by decide) (.slice pkv i ckv) i (tkL (tm T sr) i) (by rfl) ((own_under HLW.out.rk HB4.out).alloc _) ⟨w4.heap.size, 0, none⟩ 1 1 [.int .i64 tp, .slice s4 tn c4, .int .i64 kg, .int .i64 ko, .int .i64 kn, .int .i64 kd, .int .i64 kc, .int .i64 kt] (by rfl) rfl (World.news_of_block (heap_alloc_new _ _)) (by intro u hu; simp at hu; rcases hu with rfl | rfl | rfl | rfl | rfl | rfl | rfl | rfl <;> rfl) (by decide) (by unfold maxLen; omega) (by omega) (by simp; omega) _ rfl ?_; intro g5 c5 w5 ho5 hg5 ha5 hl5; have HS5 := Lib.hid (HS5F.out _ w5 (HB4.out.alloc HB4.out.size _) hg5); obtain ⟨x0, x1, x2, x3⟩ := HS5.out.hq.cells; have fx := fun j => has_free HS5.out.hq j; have HO5 := Lib.hid ho5; have HG5 := Lib.hid hg5; have HA5 := Lib.hid ha5; clear ho5 hg5 ha5 hl5))
      all_goals
        go_wp2_with fail
        have HL5 := Lib.hid (HST.out (.slice s4 tn c4) _ w5 (HB4.out.alloc HB4.out.size _) (World.ownsRow.alloc HJ4.out _) HLS.out (some ⟨g5, 0, none⟩) c5 (by rw [HUR.out]; exact HO5.out) HG5.out (fun g e => by
          cases e
          rcases HA5.out with q | q
          · exact .inl q
          · exact .inr (Nat.le_of_eq q.symm)))
        go_roundw
        case rel => exact ⟨i + 1, _, _, by go_num, by omega, Lib.hid HS5.out.st2, Lib.hid (HL5.out.low _ _ (by show w.heap.size + 2 < _; omega))⟩
        case measure => simp [intOf]; omega
    · obtain rfl : i = 16 := by omega
      obtain ⟨y0, y1, y2, y3⟩ := HS.out.hz.cells
      have fr := fun j => has_free HS.out.hz j
      go_wp2_with fail
      refine bodyPost_ret (v := pv (.slice pg 16 cg) (.slice pt 16 ct) (.slice pkv 16 ckv) last) (by simp [results, Tryz.results64, go_sem, y0, y1, y2, y3]) rfl ?_
      have h9 : w.heap.size + 1 < w.heap.size + 3 := by omega
      have h8 : w.heap.size ≤ w.heap.size + 1 := by omega
      exact ⟨_, _, _, sr, rfl, ((((HLW.out.low _ _ h9).low _ _ h9).low _ _ h9).low _ _ h9).fin, below_low (below_low (below_low (below_low HS.out.bel _ _ h8) _ _ h8) _ _ h8) _ _ h8⟩
end Go.Proofs.YtedgchafligndaaGreat
/- The document's own pool: what is stored into a pool of one's own; Remove; no condition but those that each row names. -/
namespace Go.Proofs.YtedgchafligndaaGreat
open Go.RowKit Tsk

theorem setL_ints (l : List Int) (i : Nat) (z : Int) : (ints l).set i (.int .i64 z) = ints (l.set i z) := by unfold ints; rw [List.map_set]
theorem setL_bools (l : List Bool) (i : Nat) (z : Bool) : (bools l).set i (.bool z) = bools (l.set i z) := by unfold bools; rw [List.map_set]
theorem Own14.under {B : Nat} {w w' : World} {gl : List Int} {tl : List Bool} {T : Nat → Tk} {gs ts ks : Value} {sl : Nat → Value} (h : Own14 B w gl tl T gs ts ks sl) (hb : Below w.heap.size w w') : Own14 B w' gl tl T gs ts ks sl :=
  ⟨own_under h.g hb, own_under h.t hb, own_under h.k hb, fun i hi => (h.j i hi).below hb, h.n12, h.n13, h.n23⟩
/-- A store into a block that is none of the rows', nor of the jobs'. -/
theorem Own14.away {B : Nat} {w w' : World} {gl : List Int} {tl : List Bool} {T : Nat → Tk} {gs ts ks : Value} {sl : Nat → Value} {Q : Nat → Prop} (h : Own14 B w gl tl T gs ts ks sl) (hk : Keeps Q w w') (hq : ∀ x, Q x → x < B) : Own14 B w' gl tl T gs ts ks sl := by
  refine ⟨own_keep h.g hk (fun b e k => ?_), own_keep h.t hk (fun b e k => ?_), own_keep h.k hk (fun b e k => ?_), fun i hi => (h.j i hi).keeps hk (fun x k => .inl (hq x k)), h.n12, h.n13, h.n23⟩
  · have h1 := (World.ownsRow.lt h.g b e).1; have h2 := hq b k; omega
  · have h1 := (World.ownsRow.lt h.t b e).1; have h2 := hq b k; omega
  · have h1 := (World.ownsRow.lt h.k b e).1; have h2 := hq b k; omega
/-- The rows' blocks. -/
theorem Own14.blocks {B : Nat} {w : World} {gl : List Int} {tl : List Bool} {T : Nat → Tk} {gs ts ks : Value} {sl : Nat → Value} (h : Own14 B w gl tl T gs ts ks sl) : ∃ g1 c1 g2 c2 g3 c3, gs = .slice (some ⟨g1, 0, none⟩) 16 c1 ∧ ts = .slice (some ⟨g2, 0, none⟩) 16 c2 ∧ ks = .slice (some ⟨g3, 0, none⟩) 16 c3 ∧ (B ≤ g1 ∧ g1 < w.heap.size) ∧ (B ≤ g2 ∧ g2 < w.heap.size) ∧ (B ≤ g3 ∧ g3 < w.heap.size) ∧ g1 ≠ g2 ∧ g1 ≠ g3 ∧ g2 ≠ g3 := by
  obtain ⟨g1, c1, e1, _, a1, b1⟩ := own_block2 h.g (by omega)
  obtain ⟨g2, c2, e2, _, a2, b2⟩ := own_block2 h.t (by omega)
  obtain ⟨g3, c3, e3, _, a3, b3⟩ := own_block2 h.k (by omega)
  have n12 := h.n12
  have n13 := h.n13
  have n23 := h.n23
  subst e1 e2 e3
  exact ⟨g1, c1, g2, c2, g3, c3, rfl, rfl, rfl, ⟨a1, b1⟩, ⟨a2, b2⟩, ⟨a3, b3⟩, fun e => n12 (by rw [e]; rfl), fun e => n13 (by rw [e]; rfl), fun e => n23 (by rw [e]; rfl)⟩
abbrev P14 (B : Nat) (w : World) (gl : List Int) (tl : List Bool) (T : Nat → Tk) (g1 c1 g2 c2 g3 c3 : Nat) (sl : Nat → Value) : Prop := Own14 B w gl tl T (.slice (some ⟨g1, 0, none⟩) 16 c1) (.slice (some ⟨g2, 0, none⟩) 16 c2) (.slice (some ⟨g3, 0, none⟩) 16 c3) sl
theorem Own14.nn {B : Nat} {w : World} {gl : List Int} {tl : List Bool} {T : Nat → Tk} {g1 c1 g2 c2 g3 c3 : Nat} {sl : Nat → Value} (h : P14 B w gl tl T g1 c1 g2 c2 g3 c3 sl) : g1 ≠ g2 ∧ g1 ≠ g3 ∧ g2 ≠ g3 :=
  ⟨fun e => h.n12 (by rw [e]; rfl), fun e => h.n13 (by rw [e]; rfl), fun e => h.n23 (by rw [e]; rfl)⟩
theorem Own14.setT {B : Nat} {w : World} {gl : List Int} {tl : List Bool} {T : Nat → Tk} {g1 c1 g2 c2 g3 c3 : Nat} {sl : Nat → Value} (h : P14 B w gl tl T g1 c1 g2 c2 g3 c3 sl) (i : Nat) (b : Bool) : P14 B (w.setCell ⟨g2, i, none⟩ (.bool b)) gl (tl.set i b) T g1 c1 g2 c2 g3 c3 sl := by
  obtain ⟨n1, n2, n3⟩ := h.nn
  have hst := h.t.stored i (.bool b)
  refine ⟨World.ownsRow.kept h.g hst.2 (.inr h.n12), by rw [← setL_bools]; exact hst.1, World.ownsRow.kept h.k hst.2 (.inr (fun e => h.n23 e.symm)), fun j hj => (h.j j hj).keeps ((Keeps.refl (fun x => x = g2) w).setS _ _ rfl) (fun x e => .inr (.inr (.inl (by rw [e]; rfl)))), h.n12, h.n13, h.n23⟩
theorem Own14.setG {B : Nat} {w : World} {gl : List Int} {tl : List Bool} {T : Nat → Tk} {g1 c1 g2 c2 g3 c3 : Nat} {sl : Nat → Value} (h : P14 B w gl tl T g1 c1 g2 c2 g3 c3 sl) (i : Nat) (z : Int) : P14 B (w.setCell ⟨g1, i, none⟩ (.int .i64 z)) (gl.set i z) tl T g1 c1 g2 c2 g3 c3 sl := by
  obtain ⟨n1, n2, n3⟩ := h.nn
  have hst := h.g.stored i (.int .i64 z)
  exact ⟨by rw [← setL_ints]; exact hst.1, World.ownsRow.kept h.t hst.2 (.inr (fun e => h.n12 e.symm)), World.ownsRow.kept h.k hst.2 (.inr (fun e => h.n13 e.symm)), fun j hj => (h.j j hj).keeps ((Keeps.refl (fun x => x = g1) w).setS _ _ rfl) (fun x e => .inr (.inl (by rw [e]; rfl))), h.n12, h.n13, h.n23⟩
theorem Own14.setK {B : Nat} {w : World} {gl : List Int} {tl : List Bool} {T : Nat → Tk} {g1 c1 g2 c2 g3 c3 : Nat} {sl : Nat → Value} (h : P14 B w gl tl T g1 c1 g2 c2 g3 c3 sl) (i : Nat) (p : Int) (s : Value) (n : Nat) (f : Nat → Jb) (k : Ac) (s0 : Value) (hj : JobsX (fun x => x < B ∨ x = g1 ∨ x = g2 ∨ x = g3) w s n f) :
    P14 B ((((((((w.setCell ⟨g3, i * 8, none⟩ (.int .i64 p)).setCell ⟨g3, i * 8 + 1, none⟩ s).setCell ⟨g3, i * 8 + 2, none⟩ (.int .i64 k.g)).setCell ⟨g3, i * 8 + 3, none⟩ (.int .i64 k.o)).setCell ⟨g3, i * 8 + 4, none⟩ (.int .i64 k.n)).setCell ⟨g3, i * 8 + 5, none⟩ (.int .i64 k.d)).setCell ⟨g3, i * 8 + 6, none⟩ (.int .i64 k.c)).setCell ⟨g3, i * 8 + 7, none⟩ (.int .i64 k.t)) gl tl (upd T i ⟨p, s0, n, f, k⟩) g1 c1 g2 c2 g3 c3 (upd sl i s) := by
  obtain ⟨n1, n2, n3⟩ := h.nn
  have hk : Keeps (fun x => x = g3) w _ := far_set8 (Keeps.refl (fun x => x = g3) w) g3 i ⟨p, s, n, f, k⟩ rfl
  refine ⟨own_keep h.g hk (fun b e k => ?_), own_keep h.t hk (fun b e k => ?_), ?_, fun j hlt => ?_, h.n12, h.n13, h.n23⟩
  · cases e; exact n2 k
  · cases e; exact n3 k
  · rw [tm_upd]
    exact own_set8 h.k i ⟨p, s, n, f, k⟩
  · by_cases e : j = i
    · subst e
      rw [upd_same, upd_same]
      exact (hj.keeps hk (fun x e => .inr (.inr (.inr e)))).mono (fun x _ q => by
        rcases q with q | q | q | q
        · exact .inl q
        · cases q; exact .inr (.inl rfl)
        · cases q; exact .inr (.inr (.inl rfl))
        · cases q; exact .inr (.inr (.inr rfl)))
    · rw [upd_ne _ e, upd_ne _ e]
      exact (h.j j hlt).keeps hk (fun x e => .inr (.inr (.inr (by rw [e]; rfl))))
/-- A pool of one's own is the document's. -/
theorem Own14.dp {B : Nat} {w : World} {A : Tab} {T : Nat → Tk} {gs ts ks : Value} {sl : Nat → Value} {X : Nat → Prop} (h : Own14 B w A.gens A.taken T gs ts ks sl) (hg : A.gens.length = 16) (ht : A.taken.length = 16) (hX : ∀ x, X x → x < B) : DP X w A T gs ts ks := by
  obtain ⟨g1, c1, g2, c2, g3, c3, rfl, rfl, rfl, a1, a2, a3, _⟩ := h.blocks
  refine ⟨Lst.of_own h.g (by rw [ints_len, hg]) (by omega) (fun x e _ k => by have := hX x k; omega), Lst.of_own h.t (by rw [bools_len, ht]) (by omega) (fun x e _ k => by have := hX x k; omega), sl, own_tasks h.k (by omega) (fun j hj => (h.j j hj).1), fun a n c e _ k => ?_, fun j hj => (h.j j hj).mono (fun x _ k => .inl (hX x k))⟩
  cases e
  have := hX _ k
  simp only at this
  omega
end Go.Proofs.YtedgchafligndaaGreat
/- The document's own pool: Remove; no condition but those that each row names. -/
namespace Go.Proofs.YtedgchafligndaaGreat
open Go.RowKit Tsk

/-- A pool that is answered beside a number. -/
def PoolN (X : Nat → Prop) (w : World) (A : Tab) (T : Nat → Tk) (last : Int) (n : Int) (e : Ending) (w' : World) : Prop := ∃ gs ts ks, e = .returned (.tuple #[pv gs ts ks last, .int .i64 n]) ∧ DP X w' A T gs ts ks ∧ Below w.heap.size w w'
theorem below4p {B g : Nat} {w W : World} (h : Below B w W) (hg : B ≤ g) (v0 v1 v2 v3 : Value) : Below B w ((((W.setCell ⟨g, 0, none⟩ v0).setCell ⟨g, 1, none⟩ v1).setCell ⟨g, 2, none⟩ v2).setCell ⟨g, 3, none⟩ v3) :=
  below_low (below_low (below_low (below_low h _ _ hg) _ _ hg) _ _ hg) _ _ hg
theorem keeps4p {R : Nat → Prop} {g : Nat} {w W : World} (h : Keeps R w W) (hg : R g) (v0 v1 v2 v3 : Value) : Keeps R w ((((W.setCell ⟨g, 0, none⟩ v0).setCell ⟨g, 1, none⟩ v1).setCell ⟨g, 2, none⟩ v2).setCell ⟨g, 3, none⟩ v3) :=
  (((h.setS _ _ hg).setS _ _ hg).setS _ _ hg).setS _ _ hg
set_option maxHeartbeats 4000000 in
set_option maxRecDepth 100000 in
theorem rrem14_none (X : Nat → Prop) (A : Tab) (T : Nat → Tk) (last : Int) (hg : PGood A T last) (x : Int) (hf : A.find x = none) (gs ts ks : Value) (w : World) (h : DP X w A T gs ts ks) (hX : ∀ x, X x → x < w.heap.size) :
    Calls Tryz.prog 39 #[pv gs ts ks last, .int .i64 x] w (PoolN X w A T last 20) := by
  have HF := Lib.hid (fun W (hb : Below w.heap.size w W) => rfind14 X A T last hg x gs ts ks W (h.below hb))
  rw [hf, show optV none = -1 from rfl] at HF
  have HD := Lib.hid h
  obtain ⟨p, cp, q, cq, r, cr, sl, rfl, rfl, rfl, _, _, _⟩ := h.shape hg
  obtain ⟨WA, hWA⟩ : ∃ WA, WA = (w.alloc (.cells #[.slice p 16 cp, .slice q 16 cq, .slice r 16 cr, .int .i64 last] PT14)).alloc (.cells #[.slice none 0 0, .slice none 0 0, .slice none 0 0, .int .i64 0] PT14) := ⟨_, rfl⟩
  have HB := Lib.hid (show Below w.heap.size w WA ∧ WA.heap.size = w.heap.size + 2 from by rw [hWA]; exact ⟨((Below.refl _ _).alloc (Nat.le_refl _) _).alloc (by simp) _, by simp⟩)
  have HT := Lib.hid (show HasP WA w.heap.size (.slice p 16 cp) (.slice q 16 cq) (.slice r 16 cr) last ∧ HasP WA (w.heap.size + 1) (.slice none 0 0) (.slice none 0 0) (.slice none 0 0) 0 from by rw [hWA]; exact ⟨has_old (hasP_new _ _ _ _ _) _, has_new _ _ _ (by simp)⟩)
  have HW := Lib.hid hWA
  have HX := Lib.hid hX
  clear hWA h hg hf hX
  go_enter Tryz.func39, Tryz.ntmps39
  go_upto_region 1 with fail
  rw [← HW.out]
  obtain ⟨a0, a1, a2, a3⟩ := HT.out.1.cells
  go_wp2_with fail
  refine (HF.out WA HB.out.1).mono ?_
  rintro e w1 ⟨rfl, hb1⟩
  have HB1 := Lib.hid (bnext HB.out.1 hb1)
  have HT1 := Lib.hid (show _ ∧ _ from ⟨HT.out.1.below hb1, HT.out.2.below hb1⟩)
  clear hb1 a0 a1 a2 a3
  obtain ⟨a0, a1, a2, a3⟩ := HasP.cells HT1.out.1
  obtain ⟨y0, y1, y2, y3⟩ := HasP.cells HT1.out.2
  have fr := fun j => has_free HT1.out.2 j
  go_wp2_with fail
  refine bodyPost_ret (v := .tuple #[pv (.slice p 16 cp) (.slice q 16 cq) (.slice r 16 cr) last, .int .i64 20]) (by simp [results, Tryz.results39, go_sem, y0, y1, y2, y3]) rfl ?_
  have hbel := below4p HB1.out (g := w.heap.size + 1) (by omega) (.slice p 16 cp) (.slice q 16 cq) (.slice r 16 cr) (.int .i64 last)
  exact ⟨_, _, _, rfl, HD.out.below hbel, hbel⟩
set_option maxHeartbeats 4000000 in
set_option maxRecDepth 100000 in
theorem rrem14_some (X : Nat → Prop) (A : Tab) (T : Nat → Tk) (last : Int) (hg : PGood A T last) (x : Int) (i : Nat) (hf : A.find x = some i) (gs ts ks : Value) (w : World) (h : DP X w A T gs ts ks) (hX : ∀ x, X x → x < w.heap.size) :
    Calls Tryz.prog 39 #[pv gs ts ks last, .int .i64 x] w (PoolN X w (A.dropAt i) (upd T i tk0) last 0) := by
  have HF := Lib.hid (fun W (hb : Below w.heap.size w W) => rfind14 X A T last hg x gs ts ks W (h.below hb))
  rw [hf, show optV (some i) = (i : Int) from rfl] at HF
  have HTW := Lib.hid (fun W (hb : Below w.heap.size w W) => rtwin14 X A T last hg gs ts ks W (h.below hb))
  have hlen := hg.len
  have hlt := hg.tab.lt
  obtain ⟨hi, hti, _⟩ := find_inv hf
  have hi16 : i < 16 := by omega
  have hgi : A.g i ≤ 1023 := hg.tab.gt i hi hti
  have hg1 := (hg.tab.g1 i hi).1
  obtain ⟨p, cp, q, cq, r, cr, sl, rfl, rfl, rfl, _, _, _⟩ := h.shape hg
  obtain ⟨WA, hWA⟩ : ∃ WA, WA = (w.alloc (.cells #[.slice p 16 cp, .slice q 16 cq, .slice r 16 cr, .int .i64 last] PT14)).alloc (.cells #[.slice none 0 0, .slice none 0 0, .slice none 0 0, .int .i64 0] PT14) := ⟨_, rfl⟩
  have HB := Lib.hid (show Below w.heap.size w WA ∧ WA.heap.size = w.heap.size + 2 from by rw [hWA]; exact ⟨((Below.refl _ _).alloc (Nat.le_refl _) _).alloc (by simp) _, by simp⟩)
  have HT := Lib.hid (show HasP WA w.heap.size (.slice p 16 cp) (.slice q 16 cq) (.slice r 16 cr) last ∧ HasP WA (w.heap.size + 1) (.slice none 0 0) (.slice none 0 0) (.slice none 0 0) 0 from by rw [hWA]; exact ⟨has_old (hasP_new _ _ _ _ _) _, has_new _ _ _ (by simp)⟩)
  have HW := Lib.hid hWA
  have HX := Lib.hid hX
  have HLN := Lib.hid (⟨hlen, hlt⟩ : _ ∧ _)
  clear hWA h hg hf hX hlen hlt
  go_enter Tryz.func39, Tryz.ntmps39
  go_upto_region 1 with fail
  rw [← HW.out]
  obtain ⟨a0, a1, a2, a3⟩ := HT.out.1.cells
  go_wp2_with fail
  refine (HF.out WA HB.out.1).mono ?_
  rintro e w1 ⟨rfl, hb1⟩
  have HB1 := Lib.hid (bnext HB.out.1 hb1)
  have HT1 := Lib.hid (show _ ∧ _ from ⟨HT.out.1.below hb1, HT.out.2.below hb1⟩)
  have hs1 := hb1.size
  have HS1 := Lib.hid (show w.heap.size + 2 ≤ w1.heap.size from by have := HB.out.2; omega)
  clear hb1 a0 a1 a2 a3 hs1
  obtain ⟨a0, a1, a2, a3⟩ := HasP.cells HT1.out.1
  go_wp2_with fail
  refine (HTW.out w1 HB1.out).mono ?_
  rintro e w2 ⟨gs2, ts2, ks2, sl2, rfl, ho2, hb2⟩
  obtain ⟨g1, c1, g2, c2, g3, c3, rfl, rfl, rfl, y1, y2, y3, n1, n2, n3⟩ := ho2.blocks
  have HO2 := Lib.hid ho2
  have HB2 := Lib.hid hb2
  clear ho2 hb2 a0 a1 a2 a3
  go_upto_region 5 with fail
  obtain ⟨W3, hW3⟩ : ∃ W3, W3 = w2.alloc (.cells #[.slice (some ⟨g1, 0, none⟩) 16 c1, .slice (some ⟨g2, 0, none⟩) 16 c2, .slice (some ⟨g3, 0, none⟩) 16 c3, .int .i64 last] PT14) := ⟨_, rfl⟩
  rw [← hW3]
  have HW3 := Lib.hid (show Below w2.heap.size w2 W3 ∧ HasP W3 w2.heap.size (.slice (some ⟨g1, 0, none⟩) 16 c1) (.slice (some ⟨g2, 0, none⟩) 16 c2) (.slice (some ⟨g3, 0, none⟩) 16 c3) last from by rw [hW3]; exact ⟨(Below.refl _ _).alloc (Nat.le_refl _) _, hasP_new _ _ _ _ _⟩)
  have HO3 := Lib.hid (HO2.out.under HW3.out.1)
  have HZ3 := Lib.hid (HasP.below (HasP.below HT1.out.2 HB2.out) HW3.out.1)
  have HB3 := Lib.hid (bnext HB1.out (bnext HB2.out HW3.out.1))
  clear hW3
  have k1 := (World.ownsRow.cellAt HO3.out.g i (by omega)).trans (ints_at (by have := HLN.out; omega))
  have k2 := (World.ownsRow.cellAt HO3.out.t i (by omega)).trans (bools_at (by have := HLN.out; omega))
  have q := fun (r : Nat) (hr : r < 8) => (World.ownsRow.cellAt HO3.out.k (i * 8 + r) (by omega)).trans (tkL_at (tm T sl2) hi16 r hr)
  have u0 := q 0 (by omega)
  have u1 := q 1 (by omega)
  have u2 := q 2 (by omega)
  have u3 := q 3 (by omega)
  have u4 := q 4 (by omega)
  have u5 := q 5 (by omega)
  have u6 := q 6 (by omega)
  have u7 := q 7 (by omega)
  rw [Nat.add_zero] at u0
  generalize prtT (tm T sl2 i) 0 = v0 at *
  generalize prtT (tm T sl2 i) 1 = v1 at *
  generalize prtT (tm T sl2 i) 2 = v2 at *
  generalize prtT (tm T sl2 i) 3 = v3 at *
  generalize prtT (tm T sl2 i) 4 = v4 at *
  generalize prtT (tm T sl2 i) 5 = v5 at *
  generalize prtT (tm T sl2 i) 6 = v6 at *
  generalize prtT (tm T sl2 i) 7 = v7 at *
  have f1 := fun j => World.ownsRow.frozenAt HO3.out.g j
  have f2 := fun j => World.ownsRow.frozenAt HO3.out.t j
  have f3 := fun j => World.ownsRow.frozenAt HO3.out.k j
  obtain ⟨x0, x1, x2, x3⟩ := HW3.out.2.cells
  obtain ⟨z0, z1, z2, z3⟩ := HZ3.out.cells
  have fz := fun j => has_free HZ3.out j
  have HGI := Lib.hid (show A.g i = A.gens.getD i 0 from rfl)
  rw [HGI.out] at hgi hg1
  generalize A.gens.getD i 0 = gv at *
  generalize A.taken.getD i false = tv at *
  have e0 : (0 : Int) ≤ (i : Int) := by omega
  have e1 : (i : Int) < 16 := by omega
  have hs1 := HS1.out
  have m1 : ¬ g1 = w2.heap.size := by omega
  have m2 : ¬ g2 = w2.heap.size := by omega
  have m3 : ¬ g3 = w2.heap.size := by omega
  have m4 : ¬ g1 = w.heap.size + 1 := by omega
  have m5 : ¬ g2 = w.heap.size + 1 := by omega
  have m6 : ¬ g3 = w.heap.size + 1 := by omega
  have n1' : ¬ g2 = g1 := fun e => n1 e.symm
  have n2' : ¬ g3 = g1 := fun e => n2 e.symm
  have n3' : ¬ g3 = g2 := fun e => n3 e.symm
  have n1'' : ¬ g1 = g2 := n1
  have n2'' : ¬ g1 = g3 := n2
  have n3'' : ¬ g2 = g3 := n3
  clear q
  go_wp2_with fail
  refine bodyPost_ret (v := .tuple #[pv (.slice (some ⟨g1, 0, none⟩) 16 c1) (.slice (some ⟨g2, 0, none⟩) 16 c2) (.slice (some ⟨g3, 0, none⟩) 16 c3) last, .int .i64 0]) (by simp [results, Tryz.results39, go_sem, z0, z1, z2, z3]) rfl ?_
  have o3 := ((HO3.out.setT i false).setK i 0 (.slice none 0 0) 0 (fun _ => ⟨0, 0, 0, 0⟩) kZ (.slice none 0 0) (JobsX.nil _ _ _)).setG i (gv + 1)
  have o4 := o3.away (keeps4p (R := fun x => x = w.heap.size + 1) (Keeps.refl _ _) rfl (.slice (some ⟨g1, 0, none⟩) 16 c1) (.slice (some ⟨g2, 0, none⟩) 16 c2) (.slice (some ⟨g3, 0, none⟩) 16 c3) (.int .i64 last)) (fun x e => by omega)
  have hb2 := HB2.out.size
  refine ⟨_, _, _, rfl, ?_, ?_⟩
  · have e1 : A.gens.set i (gv + 1) = (A.dropAt i).gens := by
      show _ = A.gens.set i (A.g i + 1)
      rw [HGI.out]
    rw [e1] at o4
    exact Own14.dp (A := A.dropAt i) o4 (by rw [← e1, List.length_set]; exact HLN.out.1) (by show (A.taken.set i false).length = 16; rw [List.length_set]; have := HLN.out; omega) (fun x hx => by have := HX.out x hx; omega)
  · have hw1 := HB1.out.size
    have q1 : w.heap.size ≤ g1 := by omega
    have q2 : w.heap.size ≤ g2 := by omega
    have q3 : w.heap.size ≤ g3 := by omega
    exact below4p (below_low (below_low (below_low (below_low (below_low (below_low (below_low (below_low (below_low (below_low HB3.out _ _ q2) _ _ q3) _ _ q3) _ _ q3) _ _ q3) _ _ q3) _ _ q3) _ _ q3) _ _ q3) _ _ q1) (by omega) _ _ _ _
end Go.Proofs.YtedgchafligndaaGreat
/- The document's own pool: Create; no condition but those that each row names. -/
namespace Go.Proofs.YtedgchafligndaaGreat
open Go.RowKit Tsk

theorem PGood.add {A : Tab} {T : Nat → Tk} {last : Int} (h : PGood A T last) {i : Nat} (hi : A.free = some i) {x : Tk} (hx : okTk x) : PGood (A.addAt i 0) (upd T i x) last :=
  ⟨add_good h.tab hi 0, h.kind, h.len, upd_okTk h.ok i hx, h.lo, h.hi⟩
theorem PGood.drop {A : Tab} {T : Nat → Tk} {last : Int} (h : PGood A T last) {i : Nat} {y : Int} (hi : A.find y = some i) : PGood (A.dropAt i) (upd T i tk0) last :=
  ⟨drop_good h.tab hi, h.kind, by simp [Tab.dropAt]; exact h.len, upd_okTk h.ok i tk0_ok, h.lo, h.hi⟩
theorem PGood.set {A : Tab} {T : Nat → Tk} {last : Int} (h : PGood A T last) (i : Nat) {x : Tk} (hx : okTk x) : PGood A (upd T i x) last := ⟨h.tab, h.kind, h.len, upd_okTk h.ok i hx, h.lo, h.hi⟩
/-- A pool that is answered beside a handle and a number. -/
def PoolH (X : Nat → Prop) (w : World) (A : Tab) (T : Nat → Tk) (last : Int) (h n : Int) (e : Ending) (w' : World) : Prop := ∃ gs ts ks, e = .returned (.tuple #[pv gs ts ks last, .int .i64 h, .int .i64 n]) ∧ DP X w' A T gs ts ks ∧ Below w.heap.size w w'
set_option maxHeartbeats 4000000 in
set_option maxRecDepth 100000 in
theorem rcre14_yes (X : Nat → Prop) (A : Tab) (T : Nat → Tk) (last : Int) (hg : PGood A T last) (pr : Int) (hp : 0 ≤ pr ∧ pr ≤ 31) (gs ts ks : Value) (w : World) (h : DP X w A T gs ts ks) (hX : ∀ x, X x → x < w.heap.size) :
    Calls Tryz.prog 38 #[pv gs ts ks last, .int .i64 pr] w (PoolH X w (addA A pr) (addT A T pr) last (addH A pr) (addN A pr)) := by
  have HNW := Lib.hid (fun W => rnew_ok pr W hp)
  have HTW := Lib.hid (fun W (hb : Below w.heap.size w W) => rtwin14 X A T last hg gs ts ks W (h.below hb))
  have HGD := Lib.hid hg
  have HP := Lib.hid hp
  have HDP := Lib.hid h
  have hlen := hg.len
  have hlt := hg.tab.lt
  obtain ⟨p, cp, q, cq, r, cr, sl, rfl, rfl, rfl, hcg, hct, _⟩ := h.shape hg
  have HCG := Lib.hid hcg
  have HCT := Lib.hid hct
  obtain ⟨WA, hWA⟩ : ∃ WA, WA = (w.alloc (.cells #[.slice p 16 cp, .slice q 16 cq, .slice r 16 cr, .int .i64 last] PT14)).alloc (.cells #[.slice none 0 0, .slice none 0 0, .slice none 0 0, .int .i64 0] PT14) := ⟨_, rfl⟩
  have HB := Lib.hid (show Below w.heap.size w WA ∧ WA.heap.size = w.heap.size + 2 from by rw [hWA]; exact ⟨((Below.refl _ _).alloc (Nat.le_refl _) _).alloc (by simp) _, by simp⟩)
  have HT := Lib.hid (show HasP WA w.heap.size (.slice p 16 cp) (.slice q 16 cq) (.slice r 16 cr) last ∧ HasP WA (w.heap.size + 1) (.slice none 0 0) (.slice none 0 0) (.slice none 0 0) 0 from by rw [hWA]; exact ⟨has_old (hasP_new _ _ _ _ _) _, has_new _ _ _ (by simp)⟩)
  have HW := Lib.hid hWA
  have HX := Lib.hid hX
  have HLN := Lib.hid (⟨hlen, hlt⟩ : _ ∧ _)
  clear hWA h hg hX hlen hlt hcg hct hp
  go_enter Tryz.func38, Tryz.ntmps38
  go_upto_region 1 with fail
  rw [← HW.out]
  go_wp2_with fail
  refine (HNW.out WA).mono ?_
  rintro e w1 ⟨rfl, hb1⟩
  have HB1 := Lib.hid (bnext HB.out.1 hb1)
  have HT1 := Lib.hid (show _ ∧ _ from ⟨HT.out.1.below hb1, HT.out.2.below hb1⟩)
  have hs1 := hb1.size
  have HS1 := Lib.hid (show w.heap.size + 2 ≤ w1.heap.size from by have := HB.out.2; omega)
  clear hb1 hs1
  obtain ⟨a0, a1, a2, a3⟩ := HasP.cells HT1.out.1
  go_upto_block 0 with fail
  obtain ⟨W1, hW1⟩ : ∃ W1, W1 = w1.alloc (.cells #[.int .i64 pr, .slice none 0 0, .int .i64 0, .int .i64 0, .int .i64 0, .int .i64 0, .int .i64 0, .int .i64 0] KT) := ⟨_, rfl⟩
  rw [← hW1]
  have HW1 := Lib.hid (show Below w1.heap.size w1 W1 ∧ HasT W1 w1.heap.size pr (.slice none 0 0) kZ ∧ W1.heap.size = w1.heap.size + 1 from by rw [hW1]; exact ⟨(Below.refl _ _).alloc (Nat.le_refl _) _, hasT_new w1 pr (.slice none 0 0) kZ, by simp⟩)
  have HB1 := Lib.hid (bnext HB1.out HW1.out.1)
  have HT1 := Lib.hid (show _ ∧ _ from ⟨HasP.below HT1.out.1 HW1.out.1, HasP.below HT1.out.2 HW1.out.1⟩)
  clear hW1 a0 a1 a2 a3
  obtain ⟨tb, htb⟩ : ∃ tb, tb = w1.heap.size := ⟨_, rfl⟩
  have HTB := Lib.hid (show w.heap.size + 2 ≤ tb ∧ tb < W1.heap.size ∧ HasT W1 tb pr (.slice none 0 0) kZ from by rw [htb]; exact ⟨HS1.out, by have := HW1.out.2.2; omega, HW1.out.2.1⟩)
  rw [← htb]
  clear htb
  go_wp2_with fail
  go_loopw [9] (fun iv wr => ∃ k : Nat, k ≤ 16 ∧ iv = .int .i64 k ∧ Hid (∀ j, j < k → A.fr j = false) ∧ Hid (Below W1.heap.size W1 wr)) (fun iv _ => 16 - (intOf iv).toNat)
  case atStart => exact ⟨0, Nat.zero_le _, rfl, Lib.hid (fun j hj => by omega), Lib.hid (Below.refl _ _)⟩
  case round =>
    obtain ⟨i, hk, rfl, HF, HBX⟩ := hrel
    obtain ⟨a0, a1, a2, a3⟩ := HasP.cells (HasP.below HT1.out.1 HBX.out)
    obtain ⟨y0, y1, y2, y3⟩ := HasP.cells (HasP.below HT1.out.2 HBX.out)
    have e0 : (0 : Int) ≤ (i : Int) := by omega
    by_cases hi16 : i < 16
    · have e1 : (i : Int) < 16 := by omega
      obtain ⟨b1, o1, rfl, hcb1⟩ := HCG.out _ (bnext HB1.out HBX.out) i hi16
      obtain ⟨b2, o2, rfl, hcb2⟩ := HCT.out _ (bnext HB1.out HBX.out) i hi16
      have HFRI := Lib.hid (show A.fr i = (!A.t i && decide (A.g i ≤ 1023)) from rfl)
      have hg1 := (HGD.out.tab.g1 i (by have := HLN.out; omega)).1
      by_cases hfr : A.t i = false ∧ A.g i ≤ 1023
      · obtain ⟨hti, hgi⟩ := hfr
        have HR := Lib.hid (show A.free = some i from firstIn_some (p := A.fr) (n := A.n) HF.out (by have := HLN.out; show i < A.gens.length; omega) (by rw [HFRI.out, hti]; simp [hgi]))
        have HTW1 := Lib.hid (HTW.out wr (bnext HB1.out HBX.out))
        have hgd : decide (A.g i ≤ 1023) = true := decide_eq_true hgi
        rw [hti] at hcb2
        have HTI := Lib.hid hti
        have HGI := Lib.hid hgi
        clear hti hgi
        go_wp2_with fail
        refine HTW1.out.mono ?_
        rintro e w2 ⟨gs2, ts2, ks2, sl2, rfl, ho2, hb2⟩
        obtain ⟨g1, c1, g2, c2, g3, c3, rfl, rfl, rfl, y1', y2', y3', n1, n2, n3⟩ := ho2.blocks
        have HO2 := Lib.hid ho2
        have HB2 := Lib.hid hb2
        clear ho2 hb2 a0 a1 a2 a3 y0 y1 y2 y3 hcb1 hcb2
        go_upto_region 9 with fail
        obtain ⟨W3, hW3⟩ : ∃ W3, W3 = w2.alloc (.cells #[.slice (some ⟨g1, 0, none⟩) 16 c1, .slice (some ⟨g2, 0, none⟩) 16 c2, .slice (some ⟨g3, 0, none⟩) 16 c3, .int .i64 last] PT14) := ⟨_, rfl⟩
        rw [← hW3]
        have HW3 := Lib.hid (show Below w2.heap.size w2 W3 ∧ HasP W3 w2.heap.size (.slice (some ⟨g1, 0, none⟩) 16 c1) (.slice (some ⟨g2, 0, none⟩) 16 c2) (.slice (some ⟨g3, 0, none⟩) 16 c3) last from by rw [hW3]; exact ⟨(Below.refl _ _).alloc (Nat.le_refl _) _, hasP_new _ _ _ _ _⟩)
        have HO3 := Lib.hid (HO2.out.under HW3.out.1)
        clear hW3
        have k1 := (World.ownsRow.cellAt HO3.out.g i (by omega)).trans (ints_at (by have := HLN.out; omega))
        have k2 := (World.ownsRow.cellAt HO3.out.t i (by omega)).trans (bools_at (by have := HLN.out; omega))
        have q := fun (r : Nat) (hr : r < 8) => (World.ownsRow.cellAt HO3.out.k (i * 8 + r) (by omega)).trans (tkL_at (tm T sl2) hi16 r hr)
        have u0 := q 0 (by omega)
        have u1 := q 1 (by omega)
        have u2 := q 2 (by omega)
        have u3 := q 3 (by omega)
        have u4 := q 4 (by omega)
        have u5 := q 5 (by omega)
        have u6 := q 6 (by omega)
        have u7 := q 7 (by omega)
        rw [Nat.add_zero] at u0
        generalize prtT (tm T sl2 i) 0 = v0 at *
        generalize prtT (tm T sl2 i) 1 = v1 at *
        generalize prtT (tm T sl2 i) 2 = v2 at *
        generalize prtT (tm T sl2 i) 3 = v3 at *
        generalize prtT (tm T sl2 i) 4 = v4 at *
        generalize prtT (tm T sl2 i) 5 = v5 at *
        generalize prtT (tm T sl2 i) 6 = v6 at *
        generalize prtT (tm T sl2 i) 7 = v7 at *
        have f1 := fun j => World.ownsRow.frozenAt HO3.out.g j
        have f2 := fun j => World.ownsRow.frozenAt HO3.out.t j
        have f3 := fun j => World.ownsRow.frozenAt HO3.out.k j
        obtain ⟨x0, x1, x2, x3⟩ := HW3.out.2.cells
        have fq := fun j => has_free HW3.out.2 j
        clear q
        have HTT := Lib.hid (HasT.below HTB.out.2.2 (bnext (bnext HBX.out HB2.out) HW3.out.1))
        have HZ3 := Lib.hid (HasP.below (HasP.below (HasP.below HT1.out.2 HBX.out) HB2.out) HW3.out.1)
        have HB3 := Lib.hid (bnext (bnext HB1.out HBX.out) (bnext HB2.out HW3.out.1))
        obtain ⟨t0, t1, t2, t3, t4, t5, t6, t7⟩ := HTT.out.cells
        obtain ⟨z0, z1, z2, z3⟩ := HZ3.out.cells
        have fz := fun j => has_free HZ3.out j
        have hbx := HBX.out.size
        have htb := HTB.out
        have hw2 := HB2.out.size
        have m1 : ¬ g1 = w2.heap.size := by omega
        have m2 : ¬ g2 = w2.heap.size := by omega
        have m3 : ¬ g3 = w2.heap.size := by omega
        have m4 : ¬ g1 = w.heap.size + 1 := by omega
        have m5 : ¬ g2 = w.heap.size + 1 := by omega
        have m6 : ¬ g3 = w.heap.size + 1 := by omega
        have m7 : ¬ g2 = tb := by omega
        have m8 : ¬ g3 = tb := by omega
        have m9 : ¬ w2.heap.size = w.heap.size + 1 := by omega
        have m10 : ¬ w.heap.size + 1 = w2.heap.size := by omega
        have n1' : ¬ g2 = g1 := fun e => n1 e.symm
        have n2' : ¬ g3 = g1 := fun e => n2 e.symm
        have n3' : ¬ g3 = g2 := fun e => n3 e.symm
        have n3'' : ¬ g2 = g3 := n3
        have HLOW := Lib.hid (show w.heap.size + 1 < wr.heap.size ∧ w.heap.size ≤ g2 ∧ w.heap.size ≤ g3 from ⟨by omega, by omega, by omega⟩)
        clear htb hbx hw2
        go_upto_region 11 with fail
        obtain ⟨W4, hW4⟩ : ∃ W4, W4 = ((((((((W3.setCell ⟨g2, i, none⟩ (.bool true)).setCell ⟨g3, i * 8, none⟩ (.int .i64 pr)).setCell ⟨g3, i * 8 + 1, none⟩ (.slice none 0 0)).setCell ⟨g3, i * 8 + 2, none⟩ (.int .i64 0)).setCell ⟨g3, i * 8 + 3, none⟩ (.int .i64 0)).setCell ⟨g3, i * 8 + 4, none⟩ (.int .i64 0)).setCell ⟨g3, i * 8 + 5, none⟩ (.int .i64 0)).setCell ⟨g3, i * 8 + 6, none⟩ (.int .i64 0)).setCell ⟨g3, i * 8 + 7, none⟩ (.int .i64 0) := ⟨_, rfl⟩
        rw [← hW4]
        have HK4 := Lib.hid (show Keeps (fun x => x = g2 ∨ x = g3) W3 W4 from by rw [hW4]; exact far_set8 ((Keeps.refl _ _).setS _ _ (.inl rfl)) g3 i ⟨pr, .slice none 0 0, 0, fun _ => ⟨0, 0, 0, 0⟩, kZ⟩ (.inr rfl))
        have HO4 := Lib.hid (show P14 wr.heap.size W4 (A.addAt i 0).gens (A.addAt i 0).taken (upd T i (tkN pr)) g1 c1 g2 c2 g3 c3 (upd sl2 i (.slice none 0 0)) from by rw [hW4]; exact (HO3.out.setT i true).setK i pr (.slice none 0 0) 0 (fun _ => ⟨0, 0, 0, 0⟩) kZ (.slice none 0 0) (JobsX.nil _ _ _))
        have HB4 := Lib.hid (show Below w.heap.size w W4 from below_keeps HB3.out HK4.out (fun x q => by rcases q with q | q; exact q ▸ HLOW.out.2.1; exact q ▸ HLOW.out.2.2))
        have HQ4 := Lib.hid (show HasP W4 w2.heap.size (.slice (some ⟨g1, 0, none⟩) 16 c1) (.slice (some ⟨g2, 0, none⟩) 16 c2) (.slice (some ⟨g3, 0, none⟩) 16 c3) last from has_keeps HW3.out.2 HK4.out (by omega))
        have HZ4 := Lib.hid (show HasP W4 (w.heap.size + 1) _ _ _ _ from has_keeps HZ3.out HK4.out (by omega))
        have HL4 := Lib.hid (show (A.addAt i 0).gens.length = 16 ∧ (A.addAt i 0).taken.length = 16 from ⟨HLN.out.1, by show (A.taken.set i true).length = 16; rw [List.length_set]; have := HLN.out; omega⟩)
        have HG4 := Lib.hid (HGD.out.add HR.out (tkN_ok HP.out))
        have HNA := Lib.hid (fun W (hb : Below W4.heap.size W4 W) => rname (fun _ => False) (A.addAt i 0) (upd T i (tkN pr)) last HG4.out _ _ _ W (Own14.dp (A := A.addAt i 0) (HO4.out.under hb) HL4.out.1 HL4.out.2 (fun _ k => k.elim)) i hi16 HGI.out)
        have hhd : (A.addAt i 0).hd i = A.hd i := rfl
        rw [hhd] at HNA
        have HEQ := Lib.hid (show addA A pr = A.addAt i 0 ∧ addT A T pr = upd T i (tkN pr) ∧ addH A pr = A.hd i ∧ addN A pr = 0 from by
          unfold addA addT addH addN
          rw [if_pos HP.out, if_pos HP.out, if_pos HP.out, if_pos HP.out, HR.out]
          exact ⟨rfl, rfl, rfl, rfl⟩)
        clear hW4 k1 k2 u0 u1 u2 u3 u4 u5 u6 u7 f1 f2 f3 x0 x1 x2 x3 fq t0 t1 t2 t3 t4 t5 t6 t7 z0 z1 z2 z3 fz hhd
        have HCE := Lib.hid (fun W (hb : Below W4.heap.size W4 W) => show _ ∧ _ ∧ (∀ j, W.frozen? ⟨w.heap.size + 1, j, none⟩ = false) from ⟨HasP.cells (HQ4.out.below hb), HasP.cells (HZ4.out.below hb), fun j => has_free (HasP.below HZ4.out hb) j⟩)
        obtain ⟨⟨x0, x1, x2, x3⟩, ⟨z0, z1, z2, z3⟩, fz⟩ := HCE.out W4 (Below.refl _ _)
        generalize A.hd i = hd at *
        generalize w2.heap.size = qb at *
        go_region_law (go_simp; go_at_call 36; refine (HNA.out _ below_drewOne).mono ?_; rintro e wn ⟨rfl, hb⟩; have hq3 := bnext below_drewOne hb; obtain ⟨⟨x0, x1, x2, x3⟩, ⟨z0, z1, z2, z3⟩, fz⟩ := HCE.out wn hq3; have HQ3 := Lib.hid hq3; clear hb hq3)
        all_goals
          go_wp2_with fail
          refine bodyPost_ret (v := .tuple #[pv (.slice (some ⟨g1, 0, none⟩) 16 c1) (.slice (some ⟨g2, 0, none⟩) 16 c2) (.slice (some ⟨g3, 0, none⟩) 16 c3) last, .int .i64 hd, .int .i64 0]) (by simp [results, Tryz.results38, go_sem, z0, z1, z2, z3]) rfl ?_
          obtain ⟨e1, e2, e3, e4⟩ := HEQ.out
          rw [e1, e2, e3, e4]
          have o5 := (HO4.out.under HQ3.out).away (keeps4p (R := fun x => x = w.heap.size + 1) (Keeps.refl _ _) rfl (.slice (some ⟨g1, 0, none⟩) 16 c1) (.slice (some ⟨g2, 0, none⟩) 16 c2) (.slice (some ⟨g3, 0, none⟩) 16 c3) (.int .i64 last)) (fun x e => by have := HLOW.out.1; omega)
          exact ⟨_, _, _, rfl, Own14.dp (A := A.addAt i 0) o5 HL4.out.1 HL4.out.2 (fun x hx => by have := HX.out x hx; have := HLOW.out.1; omega), below4p (bnext HB4.out HQ3.out) (by omega) _ _ _ _⟩
      · have HF' := Lib.hid (show ∀ j, j < i + 1 → A.fr j = false from fun j hj => by
          by_cases h : j < i
          · exact HF.out j h
          · obtain rfl : j = i := by omega
            rw [HFRI.out]
            cases hti : A.t j with
            | true => rfl
            | false =>
              rw [decide_eq_false (fun c => hfr ⟨hti, c⟩)]
              rfl)
        cases hti : A.t i with
        | true =>
          rw [hti] at hcb2
          clear hti hfr
          go_wp2_with fail
          go_roundw
          case rel => exact ⟨i + 1, by omega, by go_num, HF', HBX⟩
          case measure => simp [intOf]; omega
        | false =>
          rw [hti] at hcb2
          have hgd : decide (A.g i ≤ 1023) = false := decide_eq_false (fun c => hfr ⟨hti, c⟩)
          clear hti hfr
          go_wp2_with fail
          go_roundw
          case rel => exact ⟨i + 1, by omega, by go_num, HF', HBX⟩
          case measure => simp [intOf]; omega
    · obtain rfl : i = 16 := by omega
      have HEQ := Lib.hid (show addA A pr = A ∧ addT A T pr = T ∧ addH A pr = 0 ∧ addN A pr = 30 from by
        unfold addA addT addH addN
        rw [if_pos HP.out, if_pos HP.out, if_pos HP.out, if_pos HP.out, show A.free = none from firstIn_none (fun j hj => HF.out j (by have := HLN.out; have : A.n = A.gens.length := rfl; omega))]
        exact ⟨rfl, rfl, rfl, rfl⟩)
      have fz := fun j => has_free (HasP.below HT1.out.2 HBX.out) j
      go_wp2_with fail
      refine bodyPost_ret (v := .tuple #[pv (.slice p 16 cp) (.slice q 16 cq) (.slice r 16 cr) last, .int .i64 0, .int .i64 30]) (by simp [results, Tryz.results38, go_sem, y0, y1, y2, y3]) rfl ?_
      obtain ⟨e1, e2, e3, e4⟩ := HEQ.out
      rw [e1, e2, e3, e4]
      have hbel := below4p (bnext HB1.out HBX.out) (g := w.heap.size + 1) (by omega) (.slice p 16 cp) (.slice q 16 cq) (.slice r 16 cr) (.int .i64 last)
      exact ⟨_, _, _, rfl, HDP.out.below hbel, hbel⟩
set_option maxHeartbeats 4000000 in
set_option maxRecDepth 100000 in
theorem rcre14_no (X : Nat → Prop) (A : Tab) (T : Nat → Tk) (last : Int) (hg : PGood A T last) (pr : Int) (hp : ¬ (0 ≤ pr ∧ pr ≤ 31)) (gs ts ks : Value) (w : World) (h : DP X w A T gs ts ks) (hX : ∀ x, X x → x < w.heap.size) :
    Calls Tryz.prog 38 #[pv gs ts ks last, .int .i64 pr] w (PoolH X w (addA A pr) (addT A T pr) last (addH A pr) (addN A pr)) := by
  have HNW := Lib.hid (fun W => rnew_no pr W hp)
  have HTW := Lib.hid (fun W (hb : Below w.heap.size w W) => rtwin14 X A T last hg gs ts ks W (h.below hb))
  have HGD := Lib.hid hg
  have HP := Lib.hid hp
  have HDP := Lib.hid h
  have hlen := hg.len
  have hlt := hg.tab.lt
  obtain ⟨p, cp, q, cq, r, cr, sl, rfl, rfl, rfl, hcg, hct, _⟩ := h.shape hg
  have HCG := Lib.hid hcg
  have HCT := Lib.hid hct
  obtain ⟨WA, hWA⟩ : ∃ WA, WA = (w.alloc (.cells #[.slice p 16 cp, .slice q 16 cq, .slice r 16 cr, .int .i64 last] PT14)).alloc (.cells #[.slice none 0 0, .slice none 0 0, .slice none 0 0, .int .i64 0] PT14) := ⟨_, rfl⟩
  have HB := Lib.hid (show Below w.heap.size w WA ∧ WA.heap.size = w.heap.size + 2 from by rw [hWA]; exact ⟨((Below.refl _ _).alloc (Nat.le_refl _) _).alloc (by simp) _, by simp⟩)
  have HT := Lib.hid (show HasP WA w.heap.size (.slice p 16 cp) (.slice q 16 cq) (.slice r 16 cr) last ∧ HasP WA (w.heap.size + 1) (.slice none 0 0) (.slice none 0 0) (.slice none 0 0) 0 from by rw [hWA]; exact ⟨has_old (hasP_new _ _ _ _ _) _, has_new _ _ _ (by simp)⟩)
  have HW := Lib.hid hWA
  have HX := Lib.hid hX
  have HLN := Lib.hid (⟨hlen, hlt⟩ : _ ∧ _)
  clear hWA h hg hX hlen hlt hcg hct hp
  go_enter Tryz.func38, Tryz.ntmps38
  go_upto_region 1 with fail
  rw [← HW.out]
  go_wp2_with fail
  refine (HNW.out WA).mono ?_
  rintro e w1 ⟨rfl, hb1⟩
  have HB1 := Lib.hid (bnext HB.out.1 hb1)
  have HT1 := Lib.hid (show _ ∧ _ from ⟨HT.out.1.below hb1, HT.out.2.below hb1⟩)
  have hs1 := hb1.size
  have HS1 := Lib.hid (show w.heap.size + 2 ≤ w1.heap.size from by have := HB.out.2; omega)
  clear hb1 hs1
  obtain ⟨a0, a1, a2, a3⟩ := HasP.cells HT1.out.1
  obtain ⟨y0, y1, y2, y3⟩ := HasP.cells HT1.out.2
  have fz := fun j => has_free HT1.out.2 j
  go_upto_region 3 with fail
  obtain ⟨W1, hW1⟩ : ∃ W1, W1 = w1.alloc (.cells #[.int .i64 0, .slice none 0 0, .int .i64 0, .int .i64 0, .int .i64 0, .int .i64 0, .int .i64 0, .int .i64 0] KT) := ⟨_, rfl⟩
  rw [← hW1]
  have HW1 := Lib.hid (show Below w1.heap.size w1 W1 from by rw [hW1]; exact (Below.refl _ _).alloc (Nat.le_refl _) _)
  have HT2 := Lib.hid (show _ ∧ _ from ⟨HasP.below HT1.out.1 HW1.out, HasP.below HT1.out.2 HW1.out⟩)
  clear hW1 a0 a1 a2 a3 y0 y1 y2 y3 fz
  obtain ⟨a0, a1, a2, a3⟩ := HasP.cells HT2.out.1
  obtain ⟨y0, y1, y2, y3⟩ := HasP.cells HT2.out.2
  have fz := fun j => has_free HT2.out.2 j
  have HEQ := Lib.hid (show addA A pr = A ∧ addT A T pr = T ∧ addH A pr = 0 ∧ addN A pr = 2 from by
    unfold addA addT addH addN
    rw [if_neg HP.out, if_neg HP.out, if_neg HP.out, if_neg HP.out]
    exact ⟨rfl, rfl, rfl, rfl⟩)
  go_wp2_with fail
  refine bodyPost_ret (v := .tuple #[pv (.slice p 16 cp) (.slice q 16 cq) (.slice r 16 cr) last, .int .i64 0, .int .i64 2]) (by simp [results, Tryz.results38, go_sem, y0, y1, y2, y3]) rfl ?_
  obtain ⟨e1, e2, e3, e4⟩ := HEQ.out
  rw [e1, e2, e3, e4]
  have hbel := below4p (bnext HB1.out HW1.out) (g := w.heap.size + 1) (by omega) (.slice p 16 cp) (.slice q 16 cq) (.slice r 16 cr) (.int .i64 last)
  exact ⟨_, _, _, rfl, HDP.out.below hbel, hbel⟩
theorem rcre14 (X : Nat → Prop) (A : Tab) (T : Nat → Tk) (last : Int) (hg : PGood A T last) (pr : Int) (gs ts ks : Value) (w : World) (h : DP X w A T gs ts ks) (hX : ∀ x, X x → x < w.heap.size) :
    Calls Tryz.prog 38 #[pv gs ts ks last, .int .i64 pr] w (PoolH X w (addA A pr) (addT A T pr) last (addH A pr) (addN A pr)) := by
  by_cases hp : 0 ≤ pr ∧ pr ≤ 31
  · exact rcre14_yes X A T last hg pr hp gs ts ks w h hX
  · exact rcre14_no X A T last hg pr hp gs ts ks w h hX
theorem rrem14 (X : Nat → Prop) (A : Tab) (T : Nat → Tk) (last : Int) (hg : PGood A T last) (x : Int) (gs ts ks : Value) (w : World) (h : DP X w A T gs ts ks) (hX : ∀ x, X x → x < w.heap.size) :
    Calls Tryz.prog 39 #[pv gs ts ks last, .int .i64 x] w (PoolN X w (dropA A x) (dropT A T x) last (dropN A x)) := by
  rcases drop_ways A T x with ⟨hf, e1, e2, e3, e4⟩ | ⟨i, hf, e1, e2, e3, e4⟩
  · rw [e1, e3, e4]; exact rrem14_none X A T last hg x hf gs ts ks w h hX
  · rw [e1, e3, e4]; exact rrem14_some X A T last hg x i hf gs ts ks w h hX
end Go.Proofs.YtedgchafligndaaGreat
