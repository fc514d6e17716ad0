/- Texts of stages 3, 4, 12 and 13 that stand together: ZLeafL ZLeafO ZSure ZUrg ZOpens ZLawUrgent; no condition but those that each row names. -/
import Derived.Test.YthbkinopgialmaaZU1
import Derived.Test.YthbkinopgialmaaZU2
import Derived.Test.YthbkinopgialmaaZU5
import Derived.Test.YthbkinopgialmaaZU6
import Derived.OpenShut
import Derived.Deep.Slices
import Derived.ChangeSame
import Derived.ChangeMaps5
import Derived.SizedLaws
import Derived.Lib.SmallJoins
import Derived.Deep.CutRange
import Derived.Deep.RegionLaw
import Derived.IntWalk
/- The program's leaf: list, Ready; no condition but those that each row names. -/
namespace Go.Proofs.Ythbkinopgialmaa
open Go.RowKit Tsk

/-- The tasks that are told, ahead of place k. -/
def listF (A : Tab) (T : Nat → Tk) (k : Nat) : Nat → Tk := fun j => if j < k then T (A.idxs.getD j 0) else tk0
theorem listF_0 (A : Tab) (T : Nat → Tk) : listF A T 0 = fun _ => tk0 := by funext j; unfold listF; rw [if_neg (by omega)]
theorem listF_s (A : Tab) (T : Nat → Tk) (k : Nat) : listF A T (k + 1) = upd (listF A T k) k (T (A.idxs.getD k 0)) := by
  funext j
  unfold upd
  by_cases e : j = k
  · subst e; rw [if_pos rfl]; unfold listF; rw [if_pos (by omega)]
  · rw [if_neg e]
    unfold listF
    have : (j < k + 1) = (j < k) := propext ⟨fun h => by omega, fun h => by omega⟩
    simp only [this]
theorem idxs_at {A : Tab} {j : Nat} (h : j < A.idxs.length) : A.idxs.getD j 0 < A.gens.length ∧ A.t (A.idxs.getD j 0) = true := idxTo_at (t := A.t) (m := A.n) h
theorem all_at {A : Tab} {j : Nat} (h : j < A.idxs.length) : (ints A.all)[j]? = some (.int .i64 (A.hd (A.idxs.getD j 0))) := by
  unfold Tab.all ints
  simp [h, List.getD_eq_getElem?_getD]
/-- A row of the tasks that are told. -/
def ListPost (w : World) (A : Tab) (TT : Nat → Tk) (e : Ending) (w' : World) : Prop := ∃ g c, e = .returned (.slice (some ⟨g, 0, none⟩) A.idxs.length c) ∧ w'.ownsRow w.heap.size KT 8 (.slice (some ⟨g, 0, none⟩) A.idxs.length c) A.idxs.length (tkL (listF A TT A.idxs.length) A.idxs.length) ∧ Below w.heap.size w w'
set_option maxHeartbeats 4000000 in
set_option maxRecDepth 100000 in
theorem llist (ST Y : Nat → Prop) (B : Nat) (A : Tab) (TT : Nat → Tk) (hA : A.Good) (hT : IsSl TT) (w : World) (bl : Nat) (tv : Value) (hc : w.cell? ⟨bl, 0, none⟩ = some tv) (ht : PKTab ST B w A TT tv) (av : Value) (ha : Lst Y w av (ints A.all)) :
    Calls Try.prog 18 #[.pointer (some ⟨bl, 0, none⟩), av] w (ListPost w A TT) := by
  have HC := Lib.hid hc
  have hm4 : A.idxs.length ≤ 4096 := Nat.le_trans (idxTo_len A.t A.n) hA.n4
  have HG := Lib.hid (fun W (hb : Below w.heap.size w W) (j : Nat) (hj : j < A.idxs.length) => kget_some ST B A hA TT W tv (ht.below hb) hT (A.hd (A.idxs.getD j 0)) (A.idxs.getD j 0) (find_hd hA (idxs_at hj).1 (idxs_at hj).2))
  obtain ⟨b, g1, c1, g2, c2, g3, c3, rfl, _⟩ := ht
  obtain ⟨pa, ca, rfl, _, hal⟩ := ha
  have HAL := Lib.hid (show ∀ j, j < A.idxs.length → ∃ ba oa, pa = some ⟨ba, oa, none⟩ ∧ w.cell? ⟨ba, oa + j, none⟩ = some (.int .i64 (A.hd (A.idxs.getD j 0))) from fun j hj => by
    obtain ⟨ba, oa, e, _, hca⟩ := hal j _ (all_at hj)
    exact ⟨ba, oa, e, hca⟩)
  have el : (ints A.all).length = A.idxs.length := by rw [ints_len, all_len]
  rw [el]
  have HSL := Lib.hid hT
  unfold ListPost
  generalize hm : A.idxs.length = m at *
  have HM := Lib.hid hm
  have hmk := fun w => make_tasks m (by omega) w
  clear hc el hA hm hT hal
  go_enter Try.func18, Try.ntmps18
  go_upto_region 2 with fail
  have HB0 := Lib.hid (show Below w.heap.size w (w.alloc (.cells (tkZ m) KT)) from (Below.refl _ _).alloc (Nat.le_refl _) _)
  have HO0 := Lib.hid (show (w.alloc (.cells (tkZ m) KT)).ownsRow w.heap.size KT 8 (.slice (some ⟨w.heap.size, 0, none⟩) m m) m (tkL (listF A TT 0) m) from by rw [listF_0]; exact own_tkZ w m _ rfl (Nat.le_refl _) hm4)
  clear hmk
  generalize w.alloc (.cells (tkZ m) KT) = W0 at *
  go_wp2_with fail
  go_loopw [13] (fun iv wr => ∃ i : Nat, iv = .int .i64 i ∧ i ≤ m ∧ Hid (wr.ownsRow w.heap.size KT 8 (.slice (some ⟨w.heap.size, 0, none⟩) m m) m (tkL (listF A TT i) m)) ∧ Hid (Below w.heap.size w wr)) (fun iv _ => m - (intOf iv).toNat)
  case atStart => exact ⟨0, rfl, Nat.zero_le _, HO0, HB0⟩
  case round =>
    clear HO0 HB0
    obtain ⟨i, rfl, hi, HO, HB⟩ := hrel
    by_cases him : i < m
    · have hc1 := (HB.out.cell (p := ⟨bl, 0, none⟩) (cell_lt HC.out)).trans HC.out
      obtain ⟨ba, oa, rfl, hca⟩ := HAL.out i him
      have hca1 := (HB.out.cell (p := ⟨ba, oa + i, none⟩) (cell_lt hca)).trans hca
      have HGi := Lib.hid (HG.out wr HB.out i him)
      have z0 : (0 : Int) ≤ (i : Int) := by omega
      have z1 : (i : Int) < (m : Int) := by omega
      clear hca
      have HSi := Lib.hid (HSL.out (A.idxs.getD i 0))
      have HLS := Lib.hid (listF_s A TT i)
      generalize A.hd (A.idxs.getD i 0) = hx at *
      obtain ⟨t, hti⟩ : ∃ t, t = TT (A.idxs.getD i 0) := ⟨_, rfl⟩
      rw [← hti] at HGi HSi HLS
      clear hti
      obtain ⟨tp, ts, tn, tf, ⟨kg, ko, kn, kd, kc, kt⟩⟩ := t
      obtain ⟨q0, cq0, hq0⟩ := HSi.out
      dsimp only at hq0 HGi
      subst hq0
      clear HSi
      go_wp2_with fail
      refine HGi.out.mono ?_
      rintro e w1 ⟨rfl, hb1⟩
      have HB1 := Lib.hid (bnext HB.out hb1)
      have HO1 := Lib.hid (own_under HO.out hb1)
      have q := fun (r : Nat) (hr : r < 8) => (World.ownsRow.cellAt HO1.out (i * 8 + r) (by omega)).trans (tkL_at (listF A TT i) him r hr)
      have q0' := q 0 (by omega)
      have q1' := q 1 (by omega)
      have q2' := q 2 (by omega)
      have q3' := q 3 (by omega)
      have q4' := q 4 (by omega)
      have q5' := q 5 (by omega)
      have q6' := q 6 (by omega)
      have q7' := q 7 (by omega)
      rw [Nat.add_zero] at q0'
      have fr := fun j => World.ownsRow.frozenAt HO1.out j
      generalize prtT (listF A TT i i) 0 = y0 at *
      generalize prtT (listF A TT i i) 1 = y1 at *
      generalize prtT (listF A TT i i) 2 = y2 at *
      generalize prtT (listF A TT i i) 3 = y3 at *
      generalize prtT (listF A TT i i) 4 = y4 at *
      generalize prtT (listF A TT i i) 5 = y5 at *
      generalize prtT (listF A TT i i) 6 = y6 at *
      generalize prtT (listF A TT i i) 7 = y7 at *
      clear q hb1
      go_wp2_with fail
      go_roundw
      case rel =>
        refine ⟨i + 1, by go_num, by omega, Lib.hid ?_, Lib.hid (below_set8 HB1.out (Nat.le_refl _) _ _ _ _ _ _ _ _ _)⟩
        rw [HLS.out]
        exact own_set8 HO1.out i ⟨tp, .slice q0 tn cq0, tn, tf, ⟨kg, ko, kn, kd, kc, kt⟩⟩
      case measure => simp [intOf]; omega
    · have hk : i = m := by omega
      have HI := Lib.hid hk
      clear hk
      go_wp2_with fail
      go_ret
      exact ⟨_, _, rfl, by have h := HO.out; rw [HI.out] at h; exact h, HB.out⟩
theorem listF_tm (A : Tab) (T : Nat → Tk) (sl : Nat → Value) (j : Nat) (h : j < A.idxs.length) : (listF A (tm T sl) A.idxs.length j).n = (T (A.idxs.getD j 0)).n ∧ (listF A (tm T sl) A.idxs.length j).p = (T (A.idxs.getD j 0)).p := by
  unfold listF; rw [if_pos h]; exact ⟨rfl, rfl⟩
/-- The list as a slice of tasks. -/
theorem list_tasks {X : Nat → Prop} {w w' : World} {B m : Nat} {A : Tab} {T : Nat → Tk} {sl : Nat → Value} {v : Value} (hj : ∀ i, JobsX X w (sl i) (T i).n (T i).f) (hb : Below w.heap.size w w') (hm : m ≤ 4096) (h : w'.ownsRow B KT 8 v m (tkL (listF A (tm T sl) m) m)) : Tasks w' v m (listF A (tm T sl) m) :=
  own_tasks h (by omega) fun j hj2 => by
    unfold listF
    rw [if_pos hj2]
    exact (hj _).1.below hb
set_option maxHeartbeats 4000000 in
set_option maxRecDepth 100000 in
theorem lready (S X : Nat → Prop) (B : Nat) (A : Tab) (T : Nat → Tk) (hg : LGood A T) (w : World) (v : Value) (h : Lf S X B w A T v) :
    Calls Try.prog 7 #[v] w fun e w' => e = .returned (.int .i64 (rdyH A T)) ∧ Below w.heap.size w w' := by
  obtain ⟨sl, bl, ST, tv, rfl, hc, ht, hb, rfl, hj⟩ := h
  have hi0 := idxTo_len A.t A.n
  have hn8 : A.n = 8 := hg.len
  have HA := Lib.hid (kall (fun _ => False) ST B A hg.tab (tm T sl) w tv ht (fun _ k => k.elim))
  have HL := Lib.hid (fun W (hb : Below w.heap.size w W) av ha => llist ST (fun _ => False) B A (tm T sl) hg.tab (isSl_tm hj) W bl tv ((hb.cell (p := ⟨bl, 0, none⟩) (cell_lt hc)).trans hc) (ht.below hb) av ha)
  have HPK := Lib.hid (fun (W w' : World) (hb : Below w.heap.size w w') v hh => ppick v A.idxs.length (listF A (tm T sl) A.idxs.length) w' (list_tasks (B := W.heap.size) hj hb (by have : A.idxs.length ≤ A.n := hi0; omega) hh))
  have hpe : pickS (listF A (tm T sl) A.idxs.length) A.idxs.length = pickS (fun j => T ((idxTo A.t 8).getD j 0)) (idxTo A.t 8).length := by
    have e : A.idxs = idxTo A.t 8 := by unfold Tab.idxs idxTo; rw [hn8]
    rw [← e]
    exact pickS_congr fun j hj => listF_tm A T sl j hj
  obtain ⟨k1, k2⟩ := pick_first A.t T 8
  have hle := pickS_le (fun j => T ((idxTo A.t 8).getD j 0)) (idxTo A.t 8).length
  have e0 : A.idxs = idxTo A.t 8 := by unfold Tab.idxs idxTo; rw [hn8]
  rw [hpe] at HPK
  rw [← e0] at k1 k2 hle HPK
  have hk : (pickS (fun j => T (A.idxs.getD j 0)) A.idxs.length < 0 ∧ rdyH A T = 0) ∨ (∃ q : Nat, pickS (fun j => T (A.idxs.getD j 0)) A.idxs.length = q ∧ q < A.idxs.length ∧ rdyH A T = A.hd (A.idxs.getD q 0)) := by
    by_cases hr : rdy A T < 0
    · exact .inl ⟨by have := k1 hr; omega, by unfold rdyH; rw [if_pos hr]⟩
    · obtain ⟨q0, q1⟩ := k2 (by unfold rdy at hr; omega)
      refine .inr ⟨(pickS (fun j => T (A.idxs.getD j 0)) A.idxs.length).toNat, by omega, by omega, ?_⟩
      unfold rdyH
      rw [if_neg hr, q1]
      rfl
  generalize pickS (fun j => T (A.idxs.getD j 0)) A.idxs.length = pk at *
  have el : (ints A.all).length = A.idxs.length := by rw [ints_len, all_len]
  have HEL := Lib.hid el
  have HAT := Lib.hid (fun (j : Nat) (h : j < A.idxs.length) => all_at h)
  obtain ⟨b, g1, c1, g2, c2, g3, c3, rfl, _⟩ := ht
  have HHB := Lib.hid (cell_lt hc)
  have HHC := Lib.hid hc
  unfold ListPost at HL
  generalize hm : A.idxs.length = m at *
  clear hj hg hi0 hn8 hpe k1 k2 hle e0 hb el
  go_enter Try.func7, Try.ntmps7
  go_wp2_with fail
  refine HA.out.mono ?_
  rintro e w1 ⟨r, rfl, hl, hb1⟩
  have HB1 := Lib.hid hb1
  have HLL := Lib.hid hl
  obtain ⟨pa, ca, rfl, _, _⟩ := hl
  rw [HEL.out] at HLL ⊢
  clear hb1
  go_wp2_with fail
  refine (HL.out w1 HB1.out _ HLL.out).mono ?_
  rintro e w2 ⟨g, c, rfl, ho, hb2⟩
  have HB2 := Lib.hid (bnext HB1.out hb2)
  have HO := Lib.hid ho
  clear ho
  have HE2 := Lib.hid (fun (j : Nat) (h : j < m) => show ∃ ba oa, pa = some ⟨ba, oa, none⟩ ∧ w2.cell? ⟨ba, oa + j, none⟩ = some (.int .i64 (A.hd (A.idxs.getD j 0))) from by
    obtain ⟨_, _, e, _, hal⟩ := HLL.out
    simp only [Value.slice.injEq] at e
    obtain ⟨ba, oa, e2, _, hca⟩ := hal j _ (HAT.out j h)
    exact ⟨ba, oa, by rw [e.1]; exact e2, (hb2.cell (p := ⟨ba, oa + j, none⟩) (cell_lt hca)).trans hca⟩)
  clear hb2
  go_wp2_with fail
  refine (HPK.out w1 w2 HB2.out _ HO.out).mono ?_
  rintro e w3 ⟨rfl, hb3⟩
  have HB3 := Lib.hid (bnext HB2.out hb3)
  rcases hk with ⟨hneg, hr⟩ | ⟨q, hq, hqm, hr⟩
  · have hd : decide (pk < 0) = true := decide_eq_true hneg
    have HR := Lib.hid hr
    clear hb3 hr
    go_wp2_with fail
    go_ret
    exact ⟨ret_int HR.out.symm, HB3.out⟩
  · subst hq
    obtain ⟨ba, oa, rfl, hca⟩ := HE2.out q hqm
    have hc3 := (hb3.cell (p := ⟨ba, oa + q, none⟩) (cell_lt hca)).trans hca
    have HR := Lib.hid hr
    generalize A.hd (A.idxs.getD q 0) = hx at *
    have z0 : (0 : Int) ≤ (q : Int) := by omega
    have z1 : (q : Int) < (m : Int) := by omega
    clear hb3 hr hca
    go_wp2_with fail
    go_ret
    exact ⟨ret_int HR.out.symm, HB3.out⟩
end Go.Proofs.Ythbkinopgialmaa
/- The program's leaf: Offer; no condition but those that each row names. -/
namespace Go.Proofs.Ythbkinopgialmaa
open Go.RowKit Tsk

theorem find_zero {A : Tab} (h : A.Good) : A.find 0 = none := by
  cases hf : A.find 0 with
  | none => rfl
  | some i =>
    obtain ⟨h1, h2, h3⟩ := find_inv hf
    have h4 := (hd_parts h h1 h2).2.1
    rw [h3] at h4
    have h5 : kOf 0 = 0 := by decide
    have := h.k1
    omega
set_option maxHeartbeats 2000000 in
set_option maxRecDepth 100000 in
theorem loffer_none (S X : Nat → Prop) (B : Nat) (A : Tab) (T : Nat → Tk) (hg : LGood A T) (w : World) (v : Value) (h : Lf S X B w A T v) (now : Int) (hr : rdy A T < 0) :
    Calls Try.prog 8 #[v, .int .i64 now] w fun e w' => e = .returned (.tuple #[.int .i64 0, .int .i64 0, .int .i64 0]) ∧ Below w.heap.size w w' := by
  have HRD := Lib.hid (lready S X B A T hg w v h)
  have hrd : rdyH A T = 0 := by unfold rdyH; rw [if_pos hr]
  rw [hrd] at HRD
  obtain ⟨sl, bl, ST, tv, rfl, hc, ht, hb, hS, hj⟩ := h
  have HC := Lib.hid hc
  have HG := Lib.hid (fun W (hb : Below w.heap.size w W) => kget_none ST B A hg.tab (tm T sl) W tv (ht.below hb) 0 (find_zero hg.tab))
  rw [errV_ne (by decide)] at HG
  obtain ⟨b, g1, c1, g2, c2, g3, c3, rfl, _⟩ := ht
  clear hj hg hc hS hb hrd hr
  go_enter Try.func8, Try.ntmps8
  go_wp2_with fail
  refine HRD.out.mono ?_
  rintro e w0 ⟨rfl, hb0⟩
  have HB0 := Lib.hid hb0
  have hc0 := (hb0.cell (p := ⟨bl, 0, none⟩) (cell_lt HC.out)).trans HC.out
  clear hb0
  go_wp2_with fail
  refine (HG.out w0 HB0.out).mono ?_
  rintro e w1 ⟨rfl, hb1⟩
  have HB1 := Lib.hid (bnext HB0.out hb1)
  clear hb1
  go_wp2_with fail
  refine bodyPost_ret (v := .tuple #[.int .i64 0, .int .i64 0, .int .i64 0]) (by simp [results, Try.results8, go_sem]) rfl ⟨rfl, ?_⟩
  exact HB1.out.alloc HB1.out.size _
set_option maxHeartbeats 4000000 in
set_option maxRecDepth 100000 in
theorem loffer_no (S X : Nat → Prop) (B : Nat) (A : Tab) (T : Nat → Tk) (hg : LGood A T) (w : World) (v : Value) (h : Lf S X B w A T v) (hX : ∀ x, S x → X x) (hXw : ∀ x, X x → x < w.heap.size) (now : Int) (i : Nat) (hr : rdy A T = i) (hi : i < 8) (hti0 : A.t i = true) (hE : runE (T i).p (T i).n (T i).f (T i).k now ≠ 0) :
    Calls Try.prog 8 #[v, .int .i64 now] w (LfPost S X B w A T v (.tuple #[.int .i64 0, .int .i64 0, .int .i64 0])) := by
  have HLF := Lib.hid h
  have HRD := Lib.hid (fun W (hb : Below w.heap.size w W) => lready S X B A T hg W v (h.below hb))
  have hrd : rdyH A T = A.hd i := by unfold rdyH; rw [hr, if_neg (by omega), Int.toNat_natCast]
  rw [hrd] at HRD
  have hi8 : i < A.gens.length := by rw [hg.len]; exact hi
  have hf : A.find (A.hd i) = some i := find_hd hg.tab hi8 hti0
  obtain ⟨sl, bl, ST, tv, rfl, hc, ht, hb, hS, hj⟩ := h
  have HC := Lib.hid hc
  have HG := Lib.hid (fun W (hb : Below w.heap.size w W) => kget_some ST B A hg.tab (tm T sl) W tv (ht.below hb) (isSl_tm (w := w) hj) (A.hd i) i hf)
  dsimp only [tm] at HG
  have HJ := Lib.hid (hj i).1
  have hok := hg.ok i
  have HXW := Lib.hid hXw
  obtain ⟨⟨q0, cap0, hs, _⟩, _⟩ := hj i
  rw [hs] at HG HJ
  obtain ⟨t, hti⟩ : ∃ t, t = T i := ⟨_, rfl⟩
  rw [← hti] at HG HJ hok hE
  clear hti
  obtain ⟨tp, ts, tn, tf, ⟨kg, ko, kn, kd, kc, kt⟩⟩ := t
  have hn8 := hok.2.1
  dsimp only at HG HJ hn8 hE
  have HRU := Lib.hid (fun W (hb : Below w.heap.size w W) => prun_any tp (.slice q0 tn cap0) tn tf ⟨kg, ko, kn, kd, kc, kt⟩ now W (HJ.out.below hb) (okT_c hok))
  have HST := Lib.hid (fun W (hb : Below w.heap.size w W) p' q n c f k => kset_some ST B A hg.tab (tm T sl) W tv (ht.below hb) (A.hd i) p' q n c f k i hf)
  have HACT := Lib.hid (fun W' (p : Int) (s : Value) (n : Nat) (f : Nat → Jb) (k : Ac) (ht : PKTab ST B W' A (upd (tm T sl) i ⟨p, s, n, f, k⟩) tv) (hk : Keeps ST w W') (hn : JobsX X W' s n f) => Lf.act2 (v := .pointer (some ⟨bl, 0, none⟩)) (T := T) rfl hc hb hS hj hX sN ht hk hn)
  have HTX := Lib.hid (show ∀ x, ST x → X x from fun x hx => hX x (by rw [hS]; exact .inr hx))
  have hrn8 : runN tn (tf 0) ≤ 8 := by unfold runN; split <;> omega
  obtain ⟨b, g1, c1, g2, c2, g3, c3, rfl, _⟩ := ht
  have HN8 := Lib.hid hrn8
  clear hj hg hf hc hs hS hX hb hok hXw hn8 hrd hr hti0 hi8 hi hrn8
  generalize A.hd i = hx at *
  obtain ⟨E, hEE⟩ : ∃ E, E = runE tp tn tf ⟨kg, ko, kn, kd, kc, kt⟩ now := ⟨_, rfl⟩
  rw [← hEE] at HRU hE
  clear hEE
  simp only [if_neg hE] at HRU
  rw [errV_ne hE] at HRU
  go_enter Try.func8, Try.ntmps8
  go_wp2_with fail
  refine (HRD.out w (Below.refl _ _)).mono ?_
  rintro e w0 ⟨rfl, hb0⟩
  have HB0 := Lib.hid hb0
  have hc0 := (hb0.cell (p := ⟨bl, 0, none⟩) (cell_lt HC.out)).trans HC.out
  clear hb0
  go_wp2_with fail
  refine (HG.out w0 HB0.out).mono ?_
  rintro e w1 ⟨rfl, hb1⟩
  obtain ⟨W1, hW1⟩ : ∃ W1, W1 = w1.alloc (.cells #[.int .i64 tp, .slice q0 tn cap0, .int .i64 kg, .int .i64 ko, .int .i64 kn, .int .i64 kd, .int .i64 kc, .int .i64 kt] KT) := ⟨_, rfl⟩
  have HP1 := Lib.hid (show Below w.heap.size w W1 ∧ HasT W1 w1.heap.size tp (.slice q0 tn cap0) ⟨kg, ko, kn, kd, kc, kt⟩ ∧ w.heap.size ≤ w1.heap.size from by
    rw [hW1]
    have h1 := bnext HB0.out hb1
    exact ⟨h1.alloc h1.size _, hasT_new w1 tp _ ⟨kg, ko, kn, kd, kc, kt⟩, h1.size⟩)
  have HW2 := Lib.hid hW1
  clear hW1 hb1 hc0
  go_upto_region 5 with fail
  rw [← HW2.out]
  obtain ⟨x0, x1, x2, x3, x4, x5, x6, x7⟩ := HP1.out.2.1.cells
  go_wp2_with fail
  refine (HRU.out W1 HP1.out.1).mono ?_
  rintro e w2 ⟨xx, rfl, s2, c2', rfl, ho, hb2⟩
  have HB2 := Lib.hid (bnext HP1.out.1 hb2)
  have HT2 := Lib.hid (HP1.out.2.1.below hb2)
  have HO := Lib.hid ho
  have HBL := Lib.hid (show w.heap.size ≤ w1.heap.size ∧ w1.heap.size < W1.heap.size from ⟨HP1.out.2.2, has_lt HP1.out.2.1⟩)
  clear x0 x1 x2 x3 x4 x5 x6 x7 hb2 ho
  obtain ⟨z0, z1, z2, z3, z4, z5, z6, z7⟩ := HT2.out.cells
  have fr := fun j => has_free HT2.out j
  have hbl := HBL.out.1
  have HBF := Lib.hid (fun v0 v1 v2 v3 v4 v5 v6 v7 => below8 HB2.out hbl v0 v1 v2 v3 v4 v5 v6 v7)
  go_wp2_with fail
  refine bodyPost_ret (v := .tuple #[.int .i64 0, .int .i64 0, .int .i64 0]) (by simp [results, Try.results8, go_sem]) rfl ⟨rfl, ?_⟩
  exact ⟨HLF.out.below (HBF.out _ _ _ _ _ _ _ _), Keeps.of_below (HBF.out _ _ _ _ _ _ _ _)⟩
set_option maxHeartbeats 4000000 in
set_option maxRecDepth 100000 in
theorem loffer_yes (S X : Nat → Prop) (B : Nat) (A : Tab) (T : Nat → Tk) (hg : LGood A T) (w : World) (v : Value) (h : Lf S X B w A T v) (hX : ∀ x, S x → X x) (hXw : ∀ x, X x → x < w.heap.size) (now : Int) (i : Nat) (hr : rdy A T = i) (hi : i < 8) (hti0 : A.t i = true) (hE : runE (T i).p (T i).n (T i).f (T i).k now = 0) :
    Calls Try.prog 8 #[v, .int .i64 now] w (LfPost S X B w A (upd T i (tkRun (T i) sN now)) v (.tuple #[.int .i64 (A.hd i), .int .i64 (markS (runW ((T i).f 0))), .int .i64 (runL ((T i).f 0) now)])) := by
  have HLF := Lib.hid h
  have HRD := Lib.hid (fun W (hb : Below w.heap.size w W) => lready S X B A T hg W v (h.below hb))
  have hrd : rdyH A T = A.hd i := by unfold rdyH; rw [hr, if_neg (by omega), Int.toNat_natCast]
  rw [hrd] at HRD
  have hi8 : i < A.gens.length := by rw [hg.len]; exact hi
  have hf : A.find (A.hd i) = some i := find_hd hg.tab hi8 hti0
  obtain ⟨sl, bl, ST, tv, rfl, hc, ht, hb, hS, hj⟩ := h
  have HC := Lib.hid hc
  have HG := Lib.hid (fun W (hb : Below w.heap.size w W) => kget_some ST B A hg.tab (tm T sl) W tv (ht.below hb) (isSl_tm (w := w) hj) (A.hd i) i hf)
  dsimp only [tm] at HG
  have HJ := Lib.hid (hj i).1
  have hok := hg.ok i
  have HXW := Lib.hid hXw
  obtain ⟨⟨q0, cap0, hs, _⟩, _⟩ := hj i
  rw [hs] at HG HJ
  obtain ⟨t, hti⟩ : ∃ t, t = T i := ⟨_, rfl⟩
  rw [← hti] at HG HJ hok hE ⊢
  clear hti
  obtain ⟨tp, ts, tn, tf, ⟨kg, ko, kn, kd, kc, kt⟩⟩ := t
  have hn8 := hok.2.1
  dsimp only at HG HJ hn8 hE ⊢
  have HRU := Lib.hid (fun W (hb : Below w.heap.size w W) => prun_any tp (.slice q0 tn cap0) tn tf ⟨kg, ko, kn, kd, kc, kt⟩ now W (HJ.out.below hb) (okT_c hok))
  have HST := Lib.hid (fun W (hb : Below w.heap.size w W) p' q n c f k => kset_some ST B A hg.tab (tm T sl) W tv (ht.below hb) (A.hd i) p' q n c f k i hf)
  have HACT := Lib.hid (fun W' (p : Int) (s : Value) (n : Nat) (f : Nat → Jb) (k : Ac) (ht : PKTab ST B W' A (upd (tm T sl) i ⟨p, s, n, f, k⟩) tv) (hk : Keeps ST w W') (hn : JobsX X W' s n f) => Lf.act2 (v := .pointer (some ⟨bl, 0, none⟩)) (T := T) rfl hc hb hS hj hX sN ht hk hn)
  have HTX := Lib.hid (show ∀ x, ST x → X x from fun x hx => hX x (by rw [hS]; exact .inr hx))
  have hrn8 : runN tn (tf 0) ≤ 8 := by unfold runN; split <;> omega
  obtain ⟨b, g1, c1, g2, c2, g3, c3, rfl, _⟩ := ht
  have HN8 := Lib.hid hrn8
  clear hj hg hf hc hs hS hX hb hok hXw hn8 hrd hr hti0 hi8 hi hrn8
  generalize A.hd i = hx at *
  rw [hE] at HRU
  simp only [if_true, errV_0] at HRU
  unfold tkRun
  dsimp only
  clear hE
  have HMK := Lib.hid (fun W => lmark (runW (tf 0)) W)
  generalize runW (tf 0) = wt at *
  generalize runL (tf 0) now = lt at *
  obtain ⟨kk, hkk⟩ : ∃ kk, kk = runK ⟨kg, ko, kn, kd, kc, kt⟩ (tf 0) now := ⟨_, rfl⟩
  rw [← hkk] at HRU ⊢
  clear hkk
  obtain ⟨rg, ro, rnn, rd, rc, rt⟩ := kk
  generalize runN tn (tf 0) = rn at *
  generalize runF tf = rf at *
  generalize hmt : markS wt = mt at *
  clear hmt
  go_enter Try.func8, Try.ntmps8
  go_wp2_with fail
  refine (HRD.out w (Below.refl _ _)).mono ?_
  rintro e w0 ⟨rfl, hb0⟩
  have HB0 := Lib.hid hb0
  have hc0 := (hb0.cell (p := ⟨bl, 0, none⟩) (cell_lt HC.out)).trans HC.out
  clear hb0
  go_wp2_with fail
  refine (HG.out w0 HB0.out).mono ?_
  rintro e w1 ⟨rfl, hb1⟩
  obtain ⟨W1, hW1⟩ : ∃ W1, W1 = w1.alloc (.cells #[.int .i64 tp, .slice q0 tn cap0, .int .i64 kg, .int .i64 ko, .int .i64 kn, .int .i64 kd, .int .i64 kc, .int .i64 kt] KT) := ⟨_, rfl⟩
  have HP1 := Lib.hid (show Below w.heap.size w W1 ∧ HasT W1 w1.heap.size tp (.slice q0 tn cap0) ⟨kg, ko, kn, kd, kc, kt⟩ ∧ w.heap.size ≤ w1.heap.size from by
    rw [hW1]
    have h1 := bnext HB0.out hb1
    exact ⟨h1.alloc h1.size _, hasT_new w1 tp _ ⟨kg, ko, kn, kd, kc, kt⟩, h1.size⟩)
  have HW2 := Lib.hid hW1
  clear hW1 hb1 hc0
  go_upto_region 5 with fail
  rw [← HW2.out]
  obtain ⟨x0, x1, x2, x3, x4, x5, x6, x7⟩ := HP1.out.2.1.cells
  go_wp2_with fail
  refine (HRU.out W1 HP1.out.1).mono ?_
  rintro e w2 ⟨xx, rfl, s2, c2', rfl, ho, hb2⟩
  have HB2 := Lib.hid (bnext HP1.out.1 hb2)
  have HT2 := Lib.hid (HP1.out.2.1.below hb2)
  have HO := Lib.hid ho
  have HBL := Lib.hid (show w.heap.size ≤ w1.heap.size ∧ w1.heap.size < W1.heap.size from ⟨HP1.out.2.2, has_lt HP1.out.2.1⟩)
  clear x0 x1 x2 x3 x4 x5 x6 x7 hb2 ho
  obtain ⟨z0, z1, z2, z3, z4, z5, z6, z7⟩ := HT2.out.cells
  have fr := fun j => has_free HT2.out j
  have HJ3 := Lib.hid (fun (W3 : World) (h3 : W3 = ((((((((w2.setCell ⟨w1.heap.size, 0, none⟩ (.int .i64 tp)).setCell ⟨w1.heap.size, 1, none⟩ (.slice s2 rn c2')).setCell ⟨w1.heap.size, 2, none⟩ (.int .i64 rg)).setCell ⟨w1.heap.size, 3, none⟩ (.int .i64 ro)).setCell ⟨w1.heap.size, 4, none⟩ (.int .i64 rnn)).setCell ⟨w1.heap.size, 5, none⟩ (.int .i64 rd)).setCell ⟨w1.heap.size, 6, none⟩ (.int .i64 rc)).setCell ⟨w1.heap.size, 7, none⟩ (.int .i64 rt))) =>
    show Below w.heap.size w W3 ∧ HasT W3 w1.heap.size tp (.slice s2 rn c2') ⟨rg, ro, rnn, rd, rc, rt⟩ ∧ JobsX X W3 (.slice s2 rn c2') rn rf from by
      rw [h3]
      have hbl := HBL.out
      exact ⟨below8 HB2.out hbl.1 _ _ _ _ _ _ _ _, HasT.set8 (k' := ⟨rg, ro, rnn, rd, rc, rt⟩) HT2.out, JobsX.own (own_low8 HO.out hbl.2 _ _ _ _ _ _ _ _) (by have := HN8.out; omega) (fun y hy => by have := HXW.out y hy; omega)⟩)
  go_upto_region 8 with fail
  obtain ⟨W3, hW3⟩ : ∃ W3, W3 = ((((((((w2.setCell ⟨w1.heap.size, 0, none⟩ (.int .i64 tp)).setCell ⟨w1.heap.size, 1, none⟩ (.slice s2 rn c2')).setCell ⟨w1.heap.size, 2, none⟩ (.int .i64 rg)).setCell ⟨w1.heap.size, 3, none⟩ (.int .i64 ro)).setCell ⟨w1.heap.size, 4, none⟩ (.int .i64 rnn)).setCell ⟨w1.heap.size, 5, none⟩ (.int .i64 rd)).setCell ⟨w1.heap.size, 6, none⟩ (.int .i64 rc)).setCell ⟨w1.heap.size, 7, none⟩ (.int .i64 rt)) := ⟨_, rfl⟩
  rw [← hW3]
  have H3 := Lib.hid (HJ3.out W3 hW3)
  clear hW3 z0 z1 z2 z3 z4 z5 z6 z7 fr HJ3
  obtain ⟨x0, x1, x2, x3, x4, x5, x6, x7⟩ := H3.out.2.1.cells
  have hc3 := (H3.out.1.cell (p := ⟨bl, 0, none⟩) (cell_lt HC.out)).trans HC.out
  go_region_law (go_simp; go_at_call 20; refine (HST.out _ H3.out.1.drew tp s2 rn c2' rf ⟨rg, ro, rnn, rd, rc, rt⟩).mono ?_; rintro e w4 ⟨rfl, ht4, hk4⟩)
  all_goals
    have HR := Lib.hid (HACT.out w4 tp _ rn rf ⟨rg, ro, rnn, rd, rc, rt⟩ ht4 (Keeps.trans (Keeps.of_below H3.out.1.drew) hk4) ((H3.out.2.2.below below_drewOne).keeps hk4 HTX.out))
    clear ht4 hk4
    go_wp2_with fail
    refine (HMK.out _).mono ?_
    rintro e w5 ⟨rfl, rfl⟩
    go_wp2_with fail
    refine bodyPost_ret (v := .tuple #[.int .i64 hx, .int .i64 mt, .int .i64 lt]) (by simp [results, Try.results8, go_sem]) rfl ⟨rfl, ?_⟩
    exact ⟨HR.out.1, HR.out.2⟩
theorem loffer (S X : Nat → Prop) (B : Nat) (A : Tab) (T : Nat → Tk) (hg : LGood A T) (w : World) (v : Value) (h : Lf S X B w A T v) (hX : ∀ x, S x → X x) (hXw : ∀ x, X x → x < w.heap.size) (now : Int) :
    Calls Try.prog 8 #[v, .int .i64 now] w (LfPost S X B w A (offT A T now) v (.tuple #[.int .i64 (offH A T now), .int .i64 (offM A T now), .int .i64 (offL A T now)])) := by
  rcases off_ways A T now with ⟨hr, e1, e2, e3, e4⟩ | ⟨i, hr, hi, ht, _, ⟨hE, e1, e2, e3, e4⟩ | ⟨hE, e1, e2, e3, e4⟩⟩
  · rw [e1, e2, e3, e4]
    exact (loffer_none S X B A T hg w v h now hr).mono fun e w' ⟨he, hb⟩ => ⟨he, h.below hb, Keeps.of_below hb⟩
  · rw [e1, e2, e3, e4]
    exact loffer_no S X B A T hg w v h hX hXw now i hr hi ht hE
  · rw [e1, e2, e3, e4]
    exact loffer_yes S X B A T hg w v h hX hXw now i hr hi ht hE
end Go.Proofs.Ythbkinopgialmaa
/- The laws' own sure: what must come whatever the input is; no condition but those that each row names. -/
namespace Go.Proofs.Ythbkinopgialmaa
open Go.RowKit Tsk

namespace Tsk
abbrev A0 : Tab := Tab.new 2 8
abbrev T0 : Nat → Tk := fun _ => tk0
abbrev A1 : Tab := addA A0 5
abbrev T1 : Nat → Tk := addT A0 T0 5
abbrev T2 : Nat → Tk := pushT A1 T1 (A0.hd 0) ⟨2, 0, 0, 0⟩ 0
end Tsk
theorem s_add : addN A0 5 = 0 ∧ addH A0 5 = mkH 2 0 1 := by decide +kernel
theorem s_push : pushN A1 T1 (mkH 2 0 1) ⟨2, 0, 0, 0⟩ 0 = 0 := by decide +kernel
theorem s_off : offH A1 (pushT A1 T1 (mkH 2 0 1) ⟨2, 0, 0, 0⟩ 0) 0 = mkH 2 0 1 ∧ offM A1 (pushT A1 T1 (mkH 2 0 1) ⟨2, 0, 0, 0⟩ 0) 0 = 0 ∧ offL A1 (pushT A1 T1 (mkH 2 0 1) ⟨2, 0, 0, 0⟩ 0) 0 = 0 := by decide +kernel
set_option maxHeartbeats 2000000 in
set_option maxRecDepth 100000 in
theorem sure_any (w : World) : Calls Try.prog 12 #[] w fun e w' => e = .returned (.bool true) ∧ Below w.heap.size w w' := by
  have HN := Lib.hid (lnew w)
  have HM := Lib.hid (fun W => rmk_ok 2 0 1 W (by unfold okP; omega))
  have HA := Lib.hid (fun S v W (h : Lf S S w.heap.size W A0 T0 v) => ladd S S w.heap.size A0 T0 LGood.new W v h (fun _ k => k) 5)
  have HP := Lib.hid (fun S v W (h : Lf S S w.heap.size W A1 T1 v) => lpush S S w.heap.size A1 T1 (LGood.new.addG 5) W v h (fun _ k => k) (fun x hx => (h.lt x hx).2) (mkH 2 0 1) ⟨2, 0, 0, 0⟩ 0)
  have HO := Lib.hid (fun S v W (h : Lf S S w.heap.size W A1 (pushT A1 T1 (mkH 2 0 1) ⟨2, 0, 0, 0⟩ 0) v) => loffer S S w.heap.size A1 _ ((LGood.new.addG 5).pushG _ _ _) W v h (fun _ k => k) (fun x hx => (h.lt x hx).2) 0)
  rw [s_add.1, s_add.2] at HA
  rw [s_push] at HP
  rw [s_off.1, s_off.2.1, s_off.2.2] at HO
  rw [errV_0] at HA HP
  go_enter Try.func12, Try.ntmps12
  go_wp2_with fail
  refine HN.out.mono ?_
  rintro e w1 ⟨S, v, rfl, hL, hb1⟩
  have H1 := Lib.hid (hL S)
  have HB1 := Lib.hid hb1
  obtain ⟨_, bl, _, _, rfl, _⟩ := hL S
  clear hL hb1
  go_wp2_with fail
  refine (HA.out S _ w1 H1.out).mono ?_
  rintro e w2 ⟨rfl, h2, k2⟩
  have H2 := Lib.hid h2
  have HB2 := Lib.hid (below_keeps HB1.out k2 (fun x hx => (H1.out.lt x hx).1))
  clear h2 k2
  generalize mkH 2 0 1 = hx at *
  go_wp2_with fail
  refine (HP.out S _ w2 H2.out).mono ?_
  rintro e w3 ⟨rfl, h3, k3⟩
  have H3 := Lib.hid h3
  have HB3 := Lib.hid (below_keeps HB2.out k3 (fun x hx => (H1.out.lt x hx).1))
  clear h3 k3
  go_wp2_with fail
  refine (HO.out S _ w3 H3.out).mono ?_
  rintro e w4 ⟨rfl, h4, k4⟩
  have HB4 := Lib.hid (below_keeps HB3.out k4 (fun x hx => (H1.out.lt x hx).1))
  clear h4 k4
  go_wp2_with fail
  refine (HM.out _).mono ?_
  rintro e w5 ⟨rfl, rfl⟩
  go_wp2_with fail
  go_ret
  exact ⟨rfl, HB4.out⟩
end Go.Proofs.Ythbkinopgialmaa
/- LeafUrgent: what is reckoned beside the walk: the least priority among those that are ready, the sum of what was given; no condition but those that each row names. -/
namespace Go.Proofs.Ythbkinopgialmaa
open Go.RowKit Tsk

namespace Tsk
/-- The least priority of those that are ready ahead of place k; -1: none. -/
def bS (F : Nat → Tk) : Nat → Int
  | 0 => -1
  | k + 1 => if 0 < (F k).n ∧ (bS F k < 0 ∨ (F k).p < bS F k) then (F k).p else bS F k
def sumG (T : Nat → Tk) : Nat → Int
  | 0 => 0
  | m + 1 => sumG T m + (T m).k.g
end Tsk
theorem bS_pick {F : Nat → Tk} (hF : ∀ j, 0 ≤ (F j).p) : ∀ k, bS F k = if pickS F k < 0 then -1 else (F (pickS F k).toNat).p
  | 0 => rfl
  | k + 1 => by
    have h := bS_pick hF k
    have eB : bS F (k + 1) = if 0 < (F k).n ∧ (bS F k < 0 ∨ (F k).p < bS F k) then (F k).p else bS F k := rfl
    have eP : pickS F (k + 1) = if 0 < (F k).n ∧ (pickS F k < 0 ∨ (F k).p < (F (pickS F k).toNat).p) then ((k : Nat) : Int) else pickS F k := rfl
    by_cases hp : pickS F k < 0
    · rw [if_pos hp] at h
      by_cases hn : 0 < (F k).n
      · have c1 : 0 < (F k).n ∧ (bS F k < 0 ∨ (F k).p < bS F k) := ⟨hn, .inl (by omega)⟩
        have c2 : 0 < (F k).n ∧ (pickS F k < 0 ∨ (F k).p < (F (pickS F k).toNat).p) := ⟨hn, .inl hp⟩
        rw [if_pos c1] at eB
        rw [if_pos c2] at eP
        rw [eB, eP, if_neg (by omega), Int.toNat_natCast]
      · rw [if_neg (fun x => hn x.1)] at eB eP
        rw [eB, eP, if_pos hp, h]
    · rw [if_neg hp] at h
      have hq := hF (pickS F k).toNat
      by_cases hn : 0 < (F k).n ∧ (F k).p < (F (pickS F k).toNat).p
      · have c1 : 0 < (F k).n ∧ (bS F k < 0 ∨ (F k).p < bS F k) := ⟨hn.1, .inr (by rw [h]; exact hn.2)⟩
        have c2 : 0 < (F k).n ∧ (pickS F k < 0 ∨ (F k).p < (F (pickS F k).toNat).p) := ⟨hn.1, .inr hn.2⟩
        rw [if_pos c1] at eB
        rw [if_pos c2] at eP
        rw [eB, eP, if_neg (by omega), Int.toNat_natCast]
      · have c1 : ¬ (0 < (F k).n ∧ (bS F k < 0 ∨ (F k).p < bS F k)) := fun x => hn ⟨x.1, by omega⟩
        have c2 : ¬ (0 < (F k).n ∧ (pickS F k < 0 ∨ (F k).p < (F (pickS F k).toNat).p)) := fun x => hn ⟨x.1, by omega⟩
        rw [if_neg c1] at eB
        rw [if_neg c2] at eP
        rw [eB, eP, if_neg hp, h]
/-- The tasks that are told. -/
def toldF (A : Tab) (T : Nat → Tk) : Nat → Tk := fun j => T (A.idxs.getD j 0)
/-- The least priority is that of the first ready one. -/
theorem bS_rdy {A : Tab} {T : Nat → Tk} (hg : LGood A T) : bS (toldF A T) A.idxs.length = if rdy A T < 0 then -1 else (T (rdy A T).toNat).p := by
  have e0 : A.idxs = idxTo A.t 8 := by
    have hn8 : A.n = 8 := hg.len
    unfold Tab.idxs idxTo; rw [hn8]
  obtain ⟨k1, k2⟩ := pick_first A.t T 8
  rw [← e0] at k1 k2
  rw [bS_pick (F := toldF A T) (fun j => (hg.ok _).1.1)]
  by_cases hr : rdy A T < 0
  · rw [if_pos hr, if_pos (by have := k1 hr; show pickS (fun j => T (A.idxs.getD j 0)) A.idxs.length < 0; omega)]
  · obtain ⟨q0, q1⟩ := k2 (by unfold rdy at hr; omega)
    rw [if_neg hr, if_neg (by show ¬ pickS (fun j => T (A.idxs.getD j 0)) A.idxs.length < 0; omega)]
    show (T (A.idxs.getD (pickS (fun j => T (A.idxs.getD j 0)) A.idxs.length).toNat 0)).p = _
    rw [q1]
    rfl
theorem sumG_upd {T : Nat → Tk} {i : Nat} (x : Tk) : ∀ m, sumG (upd T i x) m = sumG T m + if i < m then x.k.g - (T i).k.g else 0
  | 0 => by simp [sumG]
  | m + 1 => by
    simp only [sumG]
    rw [sumG_upd x m]
    by_cases e : m = i
    · subst e; rw [upd_same, if_neg (by omega), if_pos (by omega)]; omega
    · rw [upd_ne _ e]
      by_cases h : i < m
      · rw [if_pos h, if_pos (by omega)]; omega
      · rw [if_neg h, if_neg (by omega)]; omega
theorem sumG_nonneg {A : Tab} {T : Nat → Tk} (hg : LGood A T) : ∀ m, 0 ≤ sumG T m
  | 0 => by simp [sumG]
  | m + 1 => by
    have h := sumG_nonneg hg m
    have := (hg.ok m).2.2.2.1.1.1
    simp only [sumG]; omega
theorem sumG_le {A : Tab} {T : Nat → Tk} (hg : LGood A T) : ∀ m i, i < m → (T i).k.g ≤ sumG T m
  | m + 1, i, hi => by
    have h0 := sumG_nonneg hg m
    have h1 := (hg.ok m).2.2.2.1.1.1
    simp only [sumG]
    by_cases e : i = m
    · subst e; omega
    · have := sumG_le hg m i (by omega); omega
/-- Sum over the tasks that are told. -/
theorem sum_told {t : Nat → Bool} {T : Nat → Tk} (hz : ∀ j, t j = false → (T j).k.g = 0) : ∀ m, sumG (fun j => T ((idxTo t m).getD j 0)) (idxTo t m).length = sumG T m
  | 0 => rfl
  | m + 1 => by
    have h := sum_told hz m
    cases ht : t m with
    | false => rw [idxTo_no ht, h]; simp only [sumG]; rw [hz m ht]; omega
    | true =>
      rw [idxTo_yes ht]
      have hc : ∀ k, k ≤ (idxTo t m).length → sumG (fun j => T ((idxTo t m ++ [m]).getD j 0)) k = sumG (fun j => T ((idxTo t m).getD j 0)) k := by
        intro k
        induction k with
        | zero => intro _; rfl
        | succ k ih =>
          intro hk
          simp only [sumG]
          rw [ih (by omega)]
          have e : (idxTo t m ++ [m]).getD k 0 = (idxTo t m).getD k 0 := by rw [List.getD_eq_getElem?_getD, List.getElem?_append_left (by omega), List.getD_eq_getElem?_getD]
          rw [e]
      have hE : (idxTo t m ++ [m]).getD (idxTo t m).length 0 = m := by simp [List.getD_eq_getElem?_getD]
      rw [show (idxTo t m ++ [m]).length = (idxTo t m).length + 1 by simp]
      simp only [sumG]
      rw [hc _ (Nat.le_refl _), h, hE]
/-- What stays while the law plays: u ticks were used, g of them by tasks that have gone. -/
structure Urg (A : Tab) (T : Nat → Tk) (u g : Int) (i : Nat) : Prop where
  good : LGood A T
  free : ∀ j, A.t j = false → (T j).k.g = 0
  sum : sumG T 8 + g = u
  g0 : 0 ≤ g
  le : u ≤ i
theorem t_len {A : Tab} (h : A.Good) {j : Nat} (hj : A.t j = true) : j < A.gens.length := by
  rw [← h.lt]
  unfold Tab.t at hj
  rcases Nat.lt_or_ge j A.taken.length with k | k
  · exact k
  · rw [List.getD_eq_getElem?_getD, List.getElem?_eq_none k] at hj; cases hj
theorem Urg.start : Urg (Tab.new 2 8) (fun _ => tk0) 0 0 0 := ⟨LGood.new, fun _ _ => rfl, by decide, by decide, by decide⟩
theorem Urg.step {A : Tab} {T : Nat → Tk} {u g : Int} {i : Nat} (h : Urg A T u g i) : Urg A T u g (i + 1) := ⟨h.good, h.free, h.sum, h.g0, by have := h.le; omega⟩
theorem Urg.add {A : Tab} {T : Nat → Tk} {u g : Int} {i : Nat} (h : Urg A T u g i) (p : Int) : Urg (addA A p) (addT A T p) u g (i + 1) := by
  rcases add_ways A T p with ⟨_, _, _, e1, e2⟩ | ⟨_, _, _, _, e1, e2⟩ | ⟨x, hp, hf, _, _, e1, e2⟩
  · rw [e1, e2]; exact h.step
  · rw [e1, e2]; exact h.step
  · have hg := h.good.addG p
    rw [e1, e2] at hg ⊢
    obtain ⟨hx, hxt, _⟩ := fr_iff hf
    have hx8 : x < 8 := by have := h.good.len; omega
    refine ⟨hg, fun j hj => ?_, ?_, h.g0, by have := h.le; omega⟩
    · rw [add_t h.good.tab hx] at hj
      by_cases e : x = j
      · rw [if_pos e] at hj; cases hj
      · rw [if_neg e] at hj
        rw [upd_ne _ (fun k => e k.symm)]; exact h.free j hj
    · have hs := sumG_upd (T := T) (i := x) (tkN p) 8
      rw [if_pos hx8, h.free x hxt] at hs
      have := h.sum
      rw [hs]
      show sumG T 8 + (0 - 0) + g = u
      omega
theorem Urg.drop {A : Tab} {T : Nat → Tk} {u g : Int} {i : Nat} (h : Urg A T u g i) {x : Int} {s : Nat} (hf : A.find x = some s) : dropN A x = 0 ∧ dropK A T x = (T s).k ∧ Urg (dropA A x) (dropT A T x) u (g + (T s).k.g) (i + 1) ∧ (0 ≤ (T s).k.g ∧ (T s).k.g ≤ i ∧ 0 ≤ g ∧ g + (T s).k.g ≤ i) := by
  rcases drop_ways A T x with ⟨hn, _⟩ | ⟨s', hf', e0, ek, e1, e2⟩
  · rw [hn] at hf; cases hf
  · rw [hf] at hf'
    cases hf'
    have hg := h.good.dropG x
    rw [e1, e2] at hg
    obtain ⟨hs, hst, _⟩ := find_inv hf
    have hs8 : s < 8 := by have := h.good.len; omega
    have h1 := (h.good.ok s).2.2.2.1.1.1
    have h2 := sumG_le h.good 8 s hs8
    have h3 := h.sum
    have h4 := h.g0
    have h5 := h.le
    refine ⟨e0, ek, ?_, by omega, by omega, by omega, by omega⟩
    rw [e1, e2]
    refine ⟨hg, fun j hj => ?_, ?_, by omega, by omega⟩
    · rw [drop_t h.good.tab hs] at hj
      by_cases e : s = j
      · subst e; rw [upd_same]
      · rw [if_neg e] at hj
        rw [upd_ne _ (fun k => e k.symm)]; exact h.free j hj
    · have hsu := sumG_upd (T := T) (i := s) tk0 8
      rw [if_pos hs8] at hsu
      rw [hsu]
      show sumG T 8 + (0 - (T s).k.g) + (g + (T s).k.g) = u
      omega
theorem Urg.push {A : Tab} {T : Nat → Tk} {u g : Int} {i : Nat} (h : Urg A T u g i) (x : Int) (j : Jb) (now : Int) : Urg A (pushT A T x j now) u g (i + 1) := by
  have hg := h.good.pushG x j now
  rcases push_ways A T x j now with ⟨_, _, e⟩ | ⟨s, hf, _, ⟨_, e⟩ | ⟨e0, e⟩⟩
  · rw [e]; exact h.step
  · rw [e]; exact h.step
  · rw [e] at hg ⊢
    obtain ⟨hs, hst, _⟩ := find_inv hf
    refine ⟨hg, fun y hy => ?_, ?_, h.g0, by have := h.le; omega⟩
    · by_cases e : y = s
      · subst e; rw [hst] at hy; cases hy
      · rw [upd_ne _ e]; exact h.free y hy
    · have hsu := sumG_upd (T := T) (i := s) (tkPush (T s) sN j now) 8
      have hk : (tkPush (T s) sN j now).k.g = (T s).k.g := rfl
      rw [hk] at hsu
      have := h.sum
      rw [hsu]
      split <;> omega
/-- A tick: nobody is ready and nothing is used; or the first ready one uses it. -/
theorem Urg.offer {A : Tab} {T : Nat → Tk} {u g : Int} {i : Nat} (h : Urg A T u g i) (hi : i < 200) :
    (rdy A T < 0 ∧ offH A T i = 0 ∧ Urg A (offT A T i) u g (i + 1)) ∨ ∃ s : Nat, rdy A T = s ∧ A.find (A.hd s) = some s ∧ 0 < (T s).n ∧ A.hd s ≠ 0 ∧ offH A T i = A.hd s ∧ Urg A (offT A T i) (u + 1) g (i + 1) ∧ 0 ≤ (T s).p := by
  have hg := h.good.offG (i : Int)
  rcases off_ways A T i with ⟨hr, e1, _, _, e⟩ | ⟨s, hr, hs8, hst, hn, ⟨he, _⟩ | ⟨he, e1, _, _, e⟩⟩
  · refine .inl ⟨hr, e1, ?_⟩
    rw [e]; exact h.step
  · refine absurd ?_ he
    have ho := h.good.ok s
    have h1 := sumG_le h.good 8 s hs8
    have h3 := h.sum
    have h4 := h.g0
    have h5 := h.le
    unfold runE
    rw [if_neg (fun x => x ho), if_neg (fun x => x ⟨by omega, by omega⟩), if_neg (by omega), if_neg (by omega)]
  · have hsl := t_len h.good.tab hst
    have hf := find_hd h.good.tab hsl hst
    refine .inr ⟨s, hr, hf, hn, fun e0 => ?_, e1, ?_, (h.good.ok s).1.1⟩
    · rw [e0, find_zero h.good.tab] at hf; cases hf
    · rw [e] at hg ⊢
      refine ⟨hg, fun y hy => ?_, ?_, h.g0, by have := h.le; omega⟩
      · by_cases e : y = s
        · subst e; rw [hst] at hy; cases hy
        · rw [upd_ne _ e]; exact h.free y hy
      · have hsu := sumG_upd (T := T) (i := s) (tkRun (T s) sN i) 8
        have hk : (tkRun (T s) sN i).k.g = (T s).k.g + 1 := rfl
        rw [hk, if_pos hs8] at hsu
        have := h.sum
        rw [hsu]
        omega
theorem sumG_mono {F : Nat → Tk} (hF : ∀ j, 0 ≤ (F j).k.g) {a : Nat} : ∀ {b : Nat}, a ≤ b → sumG F a ≤ sumG F b
  | 0, h => by obtain rfl : a = 0 := by omega
               exact Int.le_refl _
  | b + 1, h => by
    by_cases e : a = b + 1
    · subst e; exact Int.le_refl _
    · have := sumG_mono hF (a := a) (b := b) (by omega)
      have := hF b
      simp only [sumG]; omega
theorem sumG_pos {F : Nat → Tk} (hF : ∀ j, 0 ≤ (F j).k.g) (a : Nat) : 0 ≤ sumG F a := sumG_mono hF (Nat.zero_le a)
theorem Urg.fin {A : Tab} {T : Nat → Tk} {u g : Int} {i : Nat} (h : Urg A T u g i) : g + sumG (toldF A T) A.idxs.length = u := by
  have e0 : A.idxs = idxTo A.t 8 := by
    have hn8 : A.n = 8 := h.good.len
    unfold Tab.idxs idxTo; rw [hn8]
  have := sum_told h.free 8
  rw [← e0] at this
  have h3 := h.sum
  show g + sumG (fun j => T (A.idxs.getD j 0)) A.idxs.length = u
  omega
end Go.Proofs.Ythbkinopgialmaa
/- What comes in opened to cells: a slice of operations (a kind, a number, a handle, a job of four numbers); no condition but those that each row names. -/
namespace Go.Proofs.Ythbkinopgialmaa
open Go.ChangeShapes Go.WideShapes Go.RowKit Go.ChangeMaps Go.Deep Tsk

namespace Tsk
/-- An operation. -/
structure Oz where
  k : Int
  n : Int
  h : Int
  j : Jb
end Tsk
/-- A slice of operations as a function of the place. -/
def Opsz (w : World) (v : Value) (m : Nat) (O : Nat → Oz) : Prop :=
  ∃ p cap, v = .slice p m cap ∧ m ≤ 9223372036854775807 ∧ ∀ j, j < m → ∃ b off, p = some ⟨b, off, none⟩ ∧ w.cell? ⟨b, off + j * 7, none⟩ = some (.int .i64 (O j).k) ∧ w.cell? ⟨b, off + j * 7 + 1, none⟩ = some (.int .i64 (O j).n) ∧ w.cell? ⟨b, off + j * 7 + 2, none⟩ = some (.int .i64 (O j).h) ∧
    w.cell? ⟨b, off + j * 7 + 3, none⟩ = some (.int .i64 (O j).j.l) ∧ w.cell? ⟨b, off + j * 7 + 4, none⟩ = some (.int .i64 (O j).j.c) ∧ w.cell? ⟨b, off + j * 7 + 5, none⟩ = some (.int .i64 (O j).j.a) ∧ w.cell? ⟨b, off + j * 7 + 6, none⟩ = some (.int .i64 (O j).j.d)
theorem Opsz.below {w w' : World} {v : Value} {m : Nat} {O : Nat → Oz} (h : Opsz w v m O) (hb : Below w.heap.size w w') : Opsz w' v m O := by
  obtain ⟨p, cap, e, hl, hc⟩ := h
  refine ⟨p, cap, e, hl, fun j hj => ?_⟩
  obtain ⟨b, off, e2, c0, c1, c2, c3, c4, c5, c6⟩ := hc j hj
  have hl := cell_lt c0
  have k := fun (o : Nat) => hb.cell (p := ⟨b, o, none⟩) hl
  exact ⟨b, off, e2, (k _).trans c0, (k _).trans c1, (k _).trans c2, (k _).trans c3, (k _).trans c4, (k _).trans c5, (k _).trans c6⟩
theorem cellsOz : Try.prog.cellsOf 31 = 7 := by kernel_rfl
theorem cellsIntz : Try.prog.cellsOf 3 = 1 := by kernel_rfl
theorem cellsHz : Try.prog.cellsOf 27 = 1 := by kernel_rfl
theorem cellsJz : Try.prog.cellsOf 29 = 4 := by kernel_rfl
theorem laidOutz : laidOutB Try.prog = true := by kernel_rfl
theorem plain_addrz {w : World} {a : Addr} {v : Value} (h : w.cell? a = some v) : ∃ b off, a = ⟨b, off, none⟩ := by
  obtain ⟨b, off, spot⟩ := a
  have hs : spot = none := World.cell?_spot h
  subst hs
  exact ⟨b, off, rfl⟩

section
variable {H : Type} {enc : TypeId × Value → H} {w : World} {spare : Nat → Bool} {held : Bool}

set_option maxRecDepth 100000 in
/-- A slice of operations. -/
theorem open_opz {fuel : Nat} {v : Value} {x : DataW H × List MemPlace} (h : DataW.trod enc Try.prog w 0 spare held fuel 22 [v] = some x) : ∃ m O, Opsz w v m O := by
  rcases open_slice Try.underlying22 h with ⟨hc, _⟩ | ⟨a, len, cap, m, n, D, Pl, hcs, _, hl, hm, hmm, _, hi⟩
  · simp at hc
    subst hc
    exact ⟨0, fun _ => ⟨0, 0, 0, ⟨0, 0, 0, 0⟩⟩, none, 0, rfl, by omega, fun j hj => by omega⟩
  · simp at hcs
    subst hcs
    have hlm : len ≤ m := by rw [hmm]; split <;> omega
    have hpl : 0 < len → ∃ b off, a = ⟨b, off, none⟩ := fun h0 => by
      obtain ⟨cs', hc, _⟩ := hi 0 (by omega)
      rw [cellsOz] at hc
      obtain ⟨_, hcl, hat⟩ := World.cells?_some hc
      match cs', hcl with
      | [u0, u1, u2, u3, u4, u5, u6], _ =>
        have h0 := hat 0 (by simp)
        simp only [List.getElem?_cons_zero] at h0
        exact plain_addrz (by simpa [Addr.add] using h0)
    have hel : ∀ i, i < len → ∃ q : Oz, ∃ b off, a = ⟨b, off, none⟩ ∧ w.cell? ⟨b, off + i * 7, none⟩ = some (.int .i64 q.k) ∧ w.cell? ⟨b, off + i * 7 + 1, none⟩ = some (.int .i64 q.n) ∧ w.cell? ⟨b, off + i * 7 + 2, none⟩ = some (.int .i64 q.h) ∧
        w.cell? ⟨b, off + i * 7 + 3, none⟩ = some (.int .i64 q.j.l) ∧ w.cell? ⟨b, off + i * 7 + 4, none⟩ = some (.int .i64 q.j.c) ∧ w.cell? ⟨b, off + i * 7 + 5, none⟩ = some (.int .i64 q.j.a) ∧ w.cell? ⟨b, off + i * 7 + 6, none⟩ = some (.int .i64 q.j.d) := fun i hil => by
      obtain ⟨cs', hc, ht⟩ := hi i (by omega)
      rw [cellsOz] at hc
      obtain ⟨_, hcl, hat⟩ := World.cells?_some hc
      obtain ⟨xs, n', _, _, _, hxl, hf⟩ := DataW.trod_struct Try.underlying31 ht
      match cs', hcl with
      | [u0, u1, u2, u3, u4, u5, u6], _ =>
        have g0 := hf 0 _ rfl
        have g1 := hf 1 _ rfl
        have g2 := hf 2 _ rfl
        have g3 := hf 3 _ rfl
        simp [cellsIntz, cellsHz, cellsJz] at g0 g1 g2 g3
        match xs, hxl with
        | [y0, y1, y2, y3], _ =>
          obtain ⟨z0, e0, _, _⟩ := DataW.trod_int Try.underlying3 g0
          obtain ⟨z1, e1, _, _⟩ := DataW.trod_int Try.underlying3 g1
          obtain ⟨z2, e2, _, _⟩ := DataW.trod_int Try.underlying27 g2
          obtain ⟨xs2, n2, _, _, _, hxl2, hf2⟩ := DataW.trod_struct Try.underlying29 g3
          have k0 := hf2 0 _ rfl
          have k1 := hf2 1 _ rfl
          have k2 := hf2 2 _ rfl
          have k3 := hf2 3 _ rfl
          simp [cellsIntz] at k0 k1 k2 k3
          match xs2, hxl2 with
          | [v0, v1, v2, v3], _ =>
            obtain ⟨z3, e3, _, _⟩ := DataW.trod_int Try.underlying3 k0
            obtain ⟨z4, e4, _, _⟩ := DataW.trod_int Try.underlying3 k1
            obtain ⟨z5, e5, _, _⟩ := DataW.trod_int Try.underlying3 k2
            obtain ⟨z6, e6, _, _⟩ := DataW.trod_int Try.underlying3 k3
            simp at e0 e1 e2 e3 e4 e5 e6
            subst e0 e1 e2 e3 e4 e5 e6
            have h0 := hat 0 (by simp)
            have h1 := hat 1 (by simp)
            have h2 := hat 2 (by simp)
            have h3 := hat 3 (by simp)
            have h4 := hat 4 (by simp)
            have h5 := hat 5 (by simp)
            have h6 := hat 6 (by simp)
            simp only [add_add, List.getElem?_cons_zero, List.getElem?_cons_succ] at h0 h1 h2 h3 h4 h5 h6
            obtain ⟨b, off, rfl⟩ := hpl (by omega)
            rw [addr_plus] at h0 h1 h2 h3 h4 h5 h6
            exact ⟨⟨z0, z1, z2, ⟨z3, z4, z5, z6⟩⟩, b, off, rfl, by simpa using h0, by rw [Nat.add_assoc]; exact h1, by rw [Nat.add_assoc]; exact h2, by rw [Nat.add_assoc]; exact h3, by rw [Nat.add_assoc]; exact h4, by rw [Nat.add_assoc]; exact h5, by rw [Nat.add_assoc]; exact h6⟩
    refine ⟨len, fun i => if hil : i < len then Classical.choose (hel i hil) else ⟨0, 0, 0, ⟨0, 0, 0, 0⟩⟩, some a, cap, rfl, by unfold maxLen at hm; omega, fun j hj => ?_⟩
    obtain ⟨b, off, ha, c⟩ := Classical.choose_spec (hel j hj)
    refine ⟨b, off, by rw [ha], ?_⟩
    simp only [dif_pos hj]
    exact c
end
end Go.Proofs.Ythbkinopgialmaa
/- The law LeafUrgent: it answers true, whatever the input; no condition. -/
namespace Go.Proofs.Ythbkinopgialmaa
open Go.RowKit Tsk

theorem idx_of (x : Int) (n : Nat) (h : 0 < n) (h2 : n ≤ 500) : ∃ m : Nat, m < n ∧ wrap64 ((IntKind.u64.wrap x).tmod (n : Int)) = (m : Int) := by
  have h0 : 0 ≤ IntKind.u64.wrap x := by rw [IntKind.wrap_u64]; omega
  have e : (IntKind.u64.wrap x).tmod (n : Int) = (IntKind.u64.wrap x) % (n : Int) := Int.tmod_eq_emod_of_nonneg h0
  have a := Int.emod_nonneg (IntKind.u64.wrap x) (show (n : Int) ≠ 0 by omega)
  have b := Int.emod_lt_of_pos (IntKind.u64.wrap x) (show (0 : Int) < (n : Int) by omega)
  rw [e]
  generalize IntKind.u64.wrap x % (n : Int) = r at *
  refine ⟨r.toNat, by omega, ?_⟩
  unfold wrap64
  omega
/-- What the law's loop carries. -/
def UrgW (w : World) (S : Nat → Prop) (v : Value) (A : Tab) (T : Nat → Tk) (u g : Int) (i : Nat) (wr : World) : Prop := Urg A T u g i ∧ Lf S S w.heap.size wr A T v ∧ Below w.heap.size w wr
theorem UrgW.turn {w wr w' : World} {S : Nat → Prop} {v : Value} {A A' : Tab} {T T' : Nat → Tk} {u g u' g' : Int} {i i' : Nat} (h : UrgW w S v A T u g i wr) {W : World} (hb : Below wr.heap.size wr W) (hU : Urg A' T' u' g' i') (hL : Lf S S w.heap.size w' A' T' v) (hk : Keeps S W w') : UrgW w S v A' T' u' g' i' w' :=
  ⟨hU, hL, below_keeps (bnext h.2.2 hb) hk fun x hx => (h.2.1.lt x hx).1⟩
theorem UrgW.under {w wr w' : World} {S : Nat → Prop} {v : Value} {A : Tab} {T : Nat → Tk} {u g : Int} {i : Nat} (h : UrgW w S v A T u g i wr) (hb : Below wr.heap.size wr w') : UrgW w S v A T u g i w' := ⟨h.1, h.2.1.below hb, bnext h.2.2 hb⟩
/-- The handles that are told, as a slice. -/
def Hnd (w : World) (A : Tab) (pa : Option Addr) : Prop := ∀ j, j < A.idxs.length → ∃ ba oa, pa = some ⟨ba, oa, none⟩ ∧ w.cell? ⟨ba, oa + j, none⟩ = some (.int .i64 (A.hd (A.idxs.getD j 0)))
theorem Hnd.below {w w' : World} {A : Tab} {pa : Option Addr} (h : Hnd w A pa) (hb : Below w.heap.size w w') : Hnd w' A pa := fun j hj => by
  obtain ⟨ba, oa, e, hc⟩ := h j hj
  exact ⟨ba, oa, e, (hb.cell (p := ⟨ba, oa + j, none⟩) (cell_lt hc)).trans hc⟩
theorem lst_hnd {Y : Nat → Prop} {w : World} {r : Value} {A : Tab} (h : Lst Y w r (ints A.all)) : ∃ pa ca, r = .slice pa A.idxs.length ca ∧ Hnd w A pa := by
  obtain ⟨pa, ca, rfl, _, hal⟩ := h
  have el : (ints A.all).length = A.idxs.length := by rw [ints_len, all_len]
  rw [el]
  refine ⟨pa, ca, rfl, fun j hj => ?_⟩
  obtain ⟨ba, oa, e, _, hca⟩ := hal j _ (all_at hj)
  exact ⟨ba, oa, e, hca⟩
theorem Urg.u0 {A : Tab} {T : Nat → Tk} {u g : Int} {i : Nat} (h : Urg A T u g i) : 0 ≤ u ∧ 0 ≤ g ∧ g ≤ u ∧ u ≤ i := by
  have h1 := sumG_nonneg h.good 8
  have h2 := h.sum
  have h3 := h.g0
  exact ⟨by omega, h3, by omega, h.le⟩
set_option maxHeartbeats 8000000 in
set_option maxRecDepth 100000 in
theorem urgent_any (v : Value) (m : Nat) (O : Nat → Oz) (w : World) (h : Opsz w v m O) : Calls Try.prog 3 #[v] w fun e w' => e = .returned (.bool true) ∧ Below w.heap.size w w' := by
  have HOP := Lib.hid h
  obtain ⟨q, cap, rfl, hm63, _⟩ := h
  have HN := Lib.hid (lnew w)
  have HSU := Lib.hid (fun W => sure_any W)
  go_enter Try.func3, Try.ntmps3
  go_wp2_with fail
  refine HN.out.mono ?_
  rintro e w1 ⟨S, v1, rfl, hL, hb1⟩
  have H1 := Lib.hid (hL S)
  have HB1 := Lib.hid hb1
  obtain ⟨_, bl, _, _, rfl, _⟩ := hL S
  clear hL hb1
  go_wp2_with fail
  go_loopw [4, 5, 6] (fun uv gv iv wr => ∃ (u g : Int) (i : Nat) (A : Tab) (T : Nat → Tk), uv = .int .i64 u ∧ gv = .int .i64 g ∧ iv = .int .i64 i ∧ i ≤ m ∧ i ≤ 200 ∧ Hid (UrgW w S (.pointer (some ⟨bl, 0, none⟩)) A T u g i wr)) (fun _ _ iv _ => 200 - (intOf iv).toNat)
  case atStart => exact ⟨0, 0, 0, Tab.new 2 8, fun _ => tk0, rfl, rfl, rfl, Nat.zero_le _, by omega, Lib.hid ⟨Urg.start, H1.out, HB1.out⟩⟩
  case round =>
    obtain ⟨u, g, i, A, T, rfl, rfl, rfl, him, hi200, HU⟩ := hrel
    clear H1 HB1 HN
    have HG := Lib.hid HU.out.1.good
    by_cases hlt : i < m ∧ i < 200
    · obtain ⟨hlt1, hlt2⟩ := hlt
      have hlt1' : (i : Int) < (m : Int) := by omega
      have hlt2' : (i : Int) < 200 := by omega
      have z0 : (0 : Int) ≤ (i : Int) := by omega
      have HALL := Lib.hid (lall S S (fun _ => False) w.heap.size A T HG.out wr _ HU.out.2.1 (fun _ k => k.elim))
      go_wp2_with fail
      refine HALL.out.mono ?_
      rintro e w2 ⟨r, rfl, hl, hb2⟩
      obtain ⟨pa, ca, rfl, hh⟩ := lst_hnd hl
      have HH := Lib.hid hh
      have HB2 := Lib.hid hb2
      clear hl hh hb2
      have hn8 : A.idxs.length ≤ 8 := by have := idxTo_len A.t A.n; have e8 : A.n = 8 := HG.out.len; show (idxTo A.t A.n).length ≤ 8; omega
      have HCO := Lib.hid (fun W (hb : Below w.heap.size w W) => show ∃ b off, q = some ⟨b, off, none⟩ ∧ W.cell? ⟨b, off + i * 7, none⟩ = some (.int .i64 (O i).k) ∧ W.cell? ⟨b, off + i * 7 + 1, none⟩ = some (.int .i64 (O i).n) ∧ W.cell? ⟨b, off + i * 7 + 2, none⟩ = some (.int .i64 (O i).h) ∧ W.cell? ⟨b, off + i * 7 + 3, none⟩ = some (.int .i64 (O i).j.l) ∧ W.cell? ⟨b, off + i * 7 + 4, none⟩ = some (.int .i64 (O i).j.c) from by
        obtain ⟨_, _, e, _, hc⟩ := HOP.out.below hb
        simp only [Value.slice.injEq] at e
        obtain ⟨b, off, e2, c0, c1, c2, c3, c4, _, _⟩ := hc i hlt1
        exact ⟨b, off, by rw [e.1]; exact e2, c0, c1, c2, c3, c4⟩)
      obtain ⟨b, off, rfl, c0, c1, c2, c3, c4⟩ := HCO.out w2 (bnext HU.out.2.2 HB2.out)
      have HBS := Lib.hid (bS_rdy HG.out)
      have HFD := Lib.hid (fun (j : Nat) (hj : j < A.idxs.length) => find_hd HG.out.tab (idxs_at hj).1 (idxs_at hj).2)
      generalize (O i).k = ok at *
      generalize (O i).n = onn at *
      generalize (O i).h = oh at *
      generalize (O i).j.l = ol at *
      generalize (O i).j.c = oc at *
      generalize hnn : A.idxs.length = n at *
      have HNN := Lib.hid hnn
      clear hnn HCO
      by_cases hk3 : ok = 3
      · have d3 : (ok == 3) = true := by simpa using hk3
        clear c1 c2 c3 c4 hk3
        go_wp2_with fail
        go_loopw [8, 9] (fun bv kv wx => ∃ k : Nat, kv = .int .i64 k ∧ k ≤ n ∧ bv = .int .i64 (bS (toldF A T) k) ∧ Hid (Below w2.heap.size w2 wx)) (fun _ kv _ => n - (intOf kv).toNat)
        case atStart => exact ⟨0, rfl, Nat.zero_le _, rfl, Lib.hid (Below.refl _ _)⟩
        case round =>
          obtain ⟨k, rfl, hkn, rfl, HBX⟩ := hrel
          have HLX := Lib.hid (HU.out.2.1.below (bnext HB2.out HBX.out))
          by_cases hk : k < n
          · have hk' : (k : Int) < (n : Int) := by omega
            have y0 : (0 : Int) ≤ (k : Int) := by omega
            obtain ⟨ba, oa, rfl, hca⟩ := (HH.out.below HBX.out) k (by rw [HNN.out]; exact hk)
            have HTK := Lib.hid (ltask_some S S (fun _ => False) w.heap.size A T HG.out _ _ HLX.out (A.hd (A.idxs.getD k 0)) (fun _ k => k.elim) (A.idxs.getD k 0) (HFD.out k hk))
            have HSS := Lib.hid (show bS (toldF A T) (k + 1) = if 0 < (T (A.idxs.getD k 0)).n ∧ (bS (toldF A T) k < 0 ∨ (T (A.idxs.getD k 0)).p < bS (toldF A T) k) then (T (A.idxs.getD k 0)).p else bS (toldF A T) k from rfl)
            generalize A.hd (A.idxs.getD k 0) = hx at *
            generalize bS (toldF A T) k = bk at *
            obtain ⟨t, hti⟩ : ∃ t, t = T (A.idxs.getD k 0) := ⟨_, rfl⟩
            rw [← hti] at HTK HSS
            clear hti
            obtain ⟨tp, ts, tn, tf, ⟨kg, ko, kn, kd, kc, kt⟩⟩ := t
            dsimp only at HTK HSS
            by_cases e1 : 0 < tn
            · have e1' : decide (0 < tn) = true := decide_eq_true e1
              by_cases e2 : bk < 0
              · have e2' : decide (bk < 0) = true := decide_eq_true e2
                have HS2 := Lib.hid (HSS.out.trans (if_pos ⟨e1, .inl e2⟩))
                go_wp2_with fail
                refine HTK.out.mono ?_
                rintro e w3 ⟨s3, rfl, hJ3, hb3⟩
                obtain ⟨⟨p3, cp3, rfl, _, _⟩, _⟩ := hJ3
                have HB3 := Lib.hid (bnext HBX.out hb3)
                clear hb3
                go_wp2_with fail
                go_roundw
                case rel => exact ⟨k + 1, by go_num, by omega, by rw [HS2.out], Lib.hid (HB3.out.alloc HB3.out.size _)⟩
                case measure => simp [intOf]; omega
              · have e2' : decide (bk < 0) = false := decide_eq_false e2
                by_cases e3 : tp < bk
                · have e3' : decide (tp < bk) = true := decide_eq_true e3
                  have HS2 := Lib.hid (HSS.out.trans (if_pos ⟨e1, .inr e3⟩))
                  go_wp2_with fail
                  refine HTK.out.mono ?_
                  rintro e w3 ⟨s3, rfl, hJ3, hb3⟩
                  obtain ⟨⟨p3, cp3, rfl, _, _⟩, _⟩ := hJ3
                  have HB3 := Lib.hid (bnext HBX.out hb3)
                  clear hb3
                  go_wp2_with fail
                  go_roundw
                  case rel => exact ⟨k + 1, by go_num, by omega, by rw [HS2.out], Lib.hid (HB3.out.alloc HB3.out.size _)⟩
                  case measure => simp [intOf]; omega
                · have e3' : decide (tp < bk) = false := decide_eq_false e3
                  have HS2 := Lib.hid (HSS.out.trans (if_neg (fun x => x.2.elim e2 e3)))
                  go_wp2_with fail
                  refine HTK.out.mono ?_
                  rintro e w3 ⟨s3, rfl, hJ3, hb3⟩
                  obtain ⟨⟨p3, cp3, rfl, _, _⟩, _⟩ := hJ3
                  have HB3 := Lib.hid (bnext HBX.out hb3)
                  clear hb3
                  go_wp2_with fail
                  go_roundw
                  case rel => exact ⟨k + 1, by go_num, by omega, by rw [HS2.out], Lib.hid (HB3.out.alloc HB3.out.size _)⟩
                  case measure => simp [intOf]; omega
            · have e1' : decide (0 < tn) = false := decide_eq_false e1
              have HS2 := Lib.hid (HSS.out.trans (if_neg (fun x => e1 x.1)))
              go_wp2_with fail
              refine HTK.out.mono ?_
              rintro e w3 ⟨s3, rfl, hJ3, hb3⟩
              obtain ⟨⟨p3, cp3, rfl, _, _⟩, _⟩ := hJ3
              have HB3 := Lib.hid (bnext HBX.out hb3)
              clear hb3
              go_wp2_with fail
              go_roundw
              case rel => exact ⟨k + 1, by go_num, by omega, by rw [HS2.out], Lib.hid (HB3.out.alloc HB3.out.size _)⟩
              case measure => simp [intOf]; omega
          · have hkk : k = n := by omega
            subst hkk
            have HUB := Lib.hid (HU.out.1.u0)
            obtain ⟨u0, g0, gu, ui⟩ := HUB.out
            rcases HU.out.1.offer hlt2 with ⟨hr, ho, hUO⟩ | ⟨s, hr, hf, hn0, hne, ho, hUO, hp0⟩
            · have hrd : rdyH A T = 0 := by unfold rdyH; rw [if_pos hr]
              have hbk := HBS.out
              rw [if_pos hr] at hbk
              rw [hbk]
              have HRD := Lib.hid (lready S S w.heap.size A T HG.out _ _ HLX.out)
              rw [hrd] at HRD
              have HOF := Lib.hid (fun W (hb : Below w2.heap.size w2 W) => loffer S S w.heap.size A T HG.out W _ ((HU.out.2.1.below HB2.out).below hb) (fun _ k => k) (fun x hx => (((HU.out.2.1.below HB2.out).below hb).lt x hx).2) (i : Int))
              rw [ho] at HOF
              generalize offM A T (i : Int) = om at *
              generalize offL A T (i : Int) = ol at *
              clear hr hrd hbk ho d3
              go_wp2_with fail
              refine HRD.out.mono ?_
              rintro e w5 ⟨rfl, hb5⟩
              have HB5 := Lib.hid (bnext HBX.out hb5)
              have HTN := Lib.hid (ltask_none S S w.heap.size A T HG.out w5 _ (HLX.out.below hb5) 0 (find_zero HG.out.tab))
              clear hb5
              go_wp2_with fail
              refine HTN.out.mono ?_
              rintro e w6 ⟨rfl, hb6⟩
              rw [errV_ne (by decide)]
              have HB6 := Lib.hid (bnext HB5.out hb6)
              clear hb6
              go_wp2_with fail
              refine (HOF.out _ (HB6.out.alloc HB6.out.size _)).mono ?_
              rintro e w7 ⟨rfl, hL7, hK7⟩
              have HR7 := Lib.hid (HU.out.turn (bnext HB2.out (HB6.out.alloc HB6.out.size _)) hUO hL7 hK7)
              have HK7 := Lib.hid hK7
              clear hL7 hK7
              go_wp2_with fail
              go_roundw
              case rel => exact ⟨u, g, i + 1, _, _, rfl, rfl, by go_num, by omega, by omega, HR7⟩
              case measure => simp [intOf]; omega
            · have hrd : rdyH A T = A.hd s := by unfold rdyH; rw [hr, if_neg (by omega), Int.toNat_natCast]
              have hbk := HBS.out
              rw [hr, if_neg (by omega), Int.toNat_natCast] at hbk
              rw [hbk]
              have HRD := Lib.hid (lready S S w.heap.size A T HG.out _ _ HLX.out)
              rw [hrd] at HRD
              have HOF := Lib.hid (fun W (hb : Below w2.heap.size w2 W) => loffer S S w.heap.size A T HG.out W _ ((HU.out.2.1.below HB2.out).below hb) (fun _ k => k) (fun x hx => (((HU.out.2.1.below HB2.out).below hb).lt x hx).2) (i : Int))
              rw [ho] at HOF
              have HTS := Lib.hid (fun W (hL : Lf S S w.heap.size W A T (.pointer (some ⟨bl, 0, none⟩))) => ltask_some S S (fun _ => False) w.heap.size A T HG.out W _ hL (A.hd s) (fun _ k => k.elim) s hf)
              generalize offM A T (i : Int) = om at *
              generalize offL A T (i : Int) = ol at *
              generalize A.hd s = hx at *
              obtain ⟨t, hti⟩ : ∃ t, t = T s := ⟨_, rfl⟩
              rw [← hti] at HTS hn0 hp0 ⊢
              obtain ⟨tp, ts, tn, tf, ⟨kg, ko, kn, kd, kc, kt⟩⟩ := t
              dsimp only at HTS hn0 hp0 ⊢
              have g1 : (hx == 0) = false := by simpa using hne
              have g2 : (hx != 0) = true := by simpa using hne
              have g3 : decide (tp < 0) = false := decide_eq_false (by omega)
              have g4 : ((tn : Int) == 0) = false := by simp only [beq_eq_false_iff_ne]; omega
              have g5 : ¬ tn = 0 := by omega
              clear hr hrd hbk ho d3 hti hf hn0 hne hp0
              go_wp2_with fail
              refine HRD.out.mono ?_
              rintro e w5 ⟨rfl, hb5⟩
              have HB5 := Lib.hid (bnext HBX.out hb5)
              have HL5 := Lib.hid (HLX.out.below hb5)
              clear hb5
              go_wp2_with fail
              refine (HTS.out w5 HL5.out).mono ?_
              rintro e w6 ⟨s6, rfl, hJ6, hb6⟩
              obtain ⟨⟨p6, cp6, rfl, _, _⟩, _⟩ := hJ6
              have HB6 := Lib.hid (bnext HB5.out hb6)
              obtain ⟨W6, hW6⟩ : ∃ W6, W6 = w6.alloc (.cells #[.int .i64 tp, .slice p6 tn cp6, .int .i64 kg, .int .i64 ko, .int .i64 kn, .int .i64 kd, .int .i64 kc, .int .i64 kt] KT) := ⟨_, rfl⟩
              have HB7 := Lib.hid (show Below w2.heap.size w2 W6 from by rw [hW6]; exact HB6.out.alloc HB6.out.size _)
              have HT6 := Lib.hid (show HasT W6 w6.heap.size tp (.slice p6 tn cp6) ⟨kg, ko, kn, kd, kc, kt⟩ from by rw [hW6]; exact hasT_new w6 tp _ ⟨kg, ko, kn, kd, kc, kt⟩)
              have HSL := Lib.hid (show ¬ S w6.heap.size from fun hS => by have h1 := (HU.out.2.1.lt _ hS).2; have h2 := HB6.out.size; have h3 := HB2.out.size; omega)
              have HW6 := Lib.hid hW6
              clear hb6 hW6
              go_upto_region 19 with fail
              rw [← HW6.out]
              go_wp2_with fail
              refine (HOF.out W6 HB7.out).mono ?_
              rintro e w7 ⟨rfl, hL7, hK7⟩
              have HR7 := Lib.hid (HU.out.turn (bnext HB2.out HB7.out) hUO hL7 hK7)
              obtain ⟨x0, x1, _⟩ := HasT.cells (has_keeps HT6.out hK7 HSL.out)
              clear hL7 hK7
              go_wp2_with fail
              go_roundw
              case rel => exact ⟨u + 1, g, i + 1, _, _, rfl, rfl, by go_num, by omega, by omega, HR7⟩
              case measure => simp [intOf]; omega
      · have d3 : (ok == 3) = false := by simpa using hk3
        clear hk3
        by_cases hk0 : ok = 0 ∨ n = 0
        · have HADD := Lib.hid (fun W (hb : Below wr.heap.size wr W) (p : Int) => ladd S S w.heap.size A T HG.out W _ (HU.out.2.1.below hb) (fun _ k => k) p)
          obtain ⟨r4, hr4, hmr⟩ := idx_of onn 4 (by omega) (by omega)
          rw [show ((4 : Nat) : Int) = 4 from rfl] at hmr
          clear c2 c3 c4
          by_cases hk00 : ok = 0
          · have d0 : (ok == 0) = true := by simpa using hk00
            clear hk0 hk00
            go_wp2_with fail
            refine (HADD.out w2 HB2.out (r4 : Int)).mono ?_
            rintro e w3 ⟨rfl, hL3, hK3⟩
            have HR3 := Lib.hid (HU.out.turn HB2.out (HU.out.1.add (r4 : Int)) hL3 hK3)
            clear hL3 hK3
            go_wp2_with fail
            go_roundw
            case rel => exact ⟨u, g, i + 1, _, _, rfl, rfl, by go_num, by omega, by omega, HR3⟩
            case measure => simp [intOf]; omega
          · have d0 : (ok == 0) = false := by simpa using hk00
            have hn0 : n = 0 := by rcases hk0 with h | h; exact absurd h hk00; exact h
            subst hn0
            clear hk0 hk00
            go_wp2_with fail
            refine (HADD.out w2 HB2.out (r4 : Int)).mono ?_
            rintro e w3 ⟨rfl, hL3, hK3⟩
            have HR3 := Lib.hid (HU.out.turn HB2.out (HU.out.1.add (r4 : Int)) hL3 hK3)
            clear hL3 hK3
            go_wp2_with fail
            go_roundw
            case rel => exact ⟨u, g, i + 1, _, _, rfl, rfl, by go_num, by omega, by omega, HR3⟩
            case measure => simp [intOf]; omega
        · have d0 : (ok == 0) = false := by simp only [beq_eq_false_iff_ne]; exact fun h => hk0 (.inl h)
          have hnp : 0 < n := by rcases Nat.eq_zero_or_pos n with h | h; exact absurd (.inr h) hk0; exact h
          have dn : ((n : Int) == 0) = false := by simp only [beq_eq_false_iff_ne]; omega
          have dn2 : ¬ n = 0 := by omega
          clear hk0
          obtain ⟨x, hx8, hmx⟩ := idx_of oh n hnp (by omega)
          obtain ⟨ba, oa, rfl, hca⟩ := (HH.out) x (by rw [HNN.out]; exact hx8)
          have hfd := HFD.out x hx8
          have z2 : (0 : Int) ≤ (x : Int) := by omega
          have z3 : (x : Int) < (n : Int) := by omega
          have HFX := Lib.hid hfd
          have HL2 := Lib.hid (HU.out.2.1.below HB2.out)
          generalize A.hd (A.idxs.getD x 0) = hx at *
          obtain ⟨u0, g0, gu, ui⟩ := HU.out.1.u0
          by_cases hk1 : ok = 1
          · have d1 : (ok == 1) = true := by simpa using hk1
            have HDR := Lib.hid (ldrop S S w.heap.size A T HG.out w2 _ HL2.out (fun _ k => k) hx)
            obtain ⟨e0, ek, hUd, k0, k1, k2, k3⟩ := HU.out.1.drop hfd
            rw [e0, ek, errV_0] at HDR
            have HUD := Lib.hid hUd
            generalize (T (A.idxs.getD x 0)).k = K at *
            obtain ⟨kg, ko, kn, kd, kc, kt⟩ := K
            dsimp only at k0 k1 k2 k3 HUD
            clear hk1 e0 ek hUd hfd c1 c3 c4
            go_wp2_with fail
            refine HDR.out.mono ?_
            rintro e w3 ⟨rfl, hL3, hK3⟩
            have HR3 := Lib.hid (HU.out.turn HB2.out HUD.out hL3 hK3)
            clear hL3 hK3
            go_wp2_with fail
            go_roundw
            case rel => exact ⟨u, g + kg, i + 1, _, _, rfl, rfl, by go_num, by omega, by omega, Lib.hid (HR3.out.under ((Below.refl _ _).alloc (Nat.le_refl _) _))⟩
            case measure => simp [intOf]; omega
          · have d1 : (ok == 1) = false := by simpa using hk1
            obtain ⟨r5, hr5, hm5⟩ := idx_of ol 5 (by omega) (by omega)
            obtain ⟨r4, hr4, hm4⟩ := idx_of oc 4 (by omega) (by omega)
            rw [show ((5 : Nat) : Int) = 5 from rfl] at hm5
            rw [show ((4 : Nat) : Int) = 4 from rfl] at hm4
            have HW5 := Lib.hid (show IntKind.i64.wrap (1 + (r5 : Int)) = 1 + (r5 : Int) from IntWalk.i64_in _ (by omega))
            have HI5 := Lib.hid (show IntKind.i64.wrap ((IntKind.u64.wrap ol).tmod 5) = (r5 : Int) from by unfold wrap64 at hm5; rw [IntKind.wrap_i64]; omega)
            have HI4 := Lib.hid (show IntKind.i64.wrap ((IntKind.u64.wrap oc).tmod 4) = (r4 : Int) from by unfold wrap64 at hm4; rw [IntKind.wrap_i64]; omega)
            have HPU := Lib.hid (fun W (hb : Below w2.heap.size w2 W) => lpush S S w.heap.size A T HG.out W _ (HL2.out.below hb) (fun _ k => k) (fun x hx => ((HL2.out.below hb).lt x hx).2) hx ⟨1 + (r5 : Int), r4, 0, 0⟩ (i : Int))
            generalize pushN A T hx ⟨1 + (r5 : Int), r4, 0, 0⟩ (i : Int) = pn at *
            clear hk1 hfd hm5 hm4
            go_wp2_with fail
            go_region_law (go_simp; go_at_call 11; rw [HI5.out, HI4.out, HW5.out]; refine (HPU.out _ below_drewOne).mono ?_; rintro e w3 ⟨rfl, hL3, hK3⟩)
            all_goals
              have HR3 := Lib.hid (HU.out.turn (bnext HB2.out below_drewOne) (HU.out.1.push hx ⟨1 + (r5 : Int), r4, 0, 0⟩ (i : Int)) hL3 hK3)
              clear hL3 hK3
              go_wp2_with fail
              go_roundw
              case rel => exact ⟨u, g, i + 1, _, _, rfl, rfl, by go_num, by omega, by omega, HR3⟩
              case measure => simp [intOf]; omega
    · have HUB := Lib.hid (HU.out.1.u0)
      have HALL := Lib.hid (lall S S (fun _ => False) w.heap.size A T HG.out wr _ HU.out.2.1 (fun _ k => k.elim))
      have HFN := Lib.hid (HU.out.1.fin)
      by_cases hlt1 : i < m
      · have hlt1' : (i : Int) < (m : Int) := by omega
        have hge : ¬ ((i : Int) < 200) := by omega
        have hge' : decide ((i : Int) < 200) = false := decide_eq_false hge
        clear hlt
        go_wp2_with fail
        refine HALL.out.mono ?_
        rintro e w2 ⟨r, rfl, hl, hb2⟩
        obtain ⟨pa, ca, rfl, hh⟩ := lst_hnd hl
        have HH := Lib.hid hh
        have HB2 := Lib.hid hb2
        have HFD := Lib.hid (fun (j : Nat) (hj : j < A.idxs.length) => find_hd HG.out.tab (idxs_at hj).1 (idxs_at hj).2)
        have hn8 : A.idxs.length ≤ 8 := by have := idxTo_len A.t A.n; have e8 : A.n = 8 := HG.out.len; show (idxTo A.t A.n).length ≤ 8; omega
        clear hl hh hb2
        generalize hnn : A.idxs.length = n at *
        have HNN := Lib.hid hnn
        have HPOS := Lib.hid (show ∀ j, 0 ≤ (toldF A T j).k.g from fun j => (HG.out.ok _).2.2.2.1.1.1)
        clear hnn hge'
        go_wp2_with fail
        go_loopw [21, 23] (fun sv kv wx => ∃ k : Nat, kv = .int .i64 k ∧ k ≤ n ∧ sv = .int .i64 (g + sumG (toldF A T) k) ∧ Hid (Below w2.heap.size w2 wx)) (fun _ kv _ => n - (intOf kv).toNat)
        case atStart => exact ⟨0, rfl, Nat.zero_le _, by simp [sumG], Lib.hid (Below.refl _ _)⟩
        case round =>
          obtain ⟨k, rfl, hkn, rfl, HBX⟩ := hrel
          have HLX := Lib.hid (HU.out.2.1.below (bnext HB2.out HBX.out))
          obtain ⟨u0, g0, gu, ui⟩ := HUB.out
          by_cases hk : k < n
          · have hk' : (k : Int) < (n : Int) := by omega
            have y0 : (0 : Int) ≤ (k : Int) := by omega
            obtain ⟨ba, oa, rfl, hca⟩ := (HH.out.below HBX.out) k (by rw [HNN.out]; exact hk)
            have HTK := Lib.hid (ltask_some S S (fun _ => False) w.heap.size A T HG.out _ _ HLX.out (A.hd (A.idxs.getD k 0)) (fun _ k => k.elim) (A.idxs.getD k 0) (HFD.out k hk))
            have HSS := Lib.hid (show sumG (toldF A T) (k + 1) = sumG (toldF A T) k + (T (A.idxs.getD k 0)).k.g from rfl)
            have s0 := sumG_pos HPOS.out k
            have s1 := sumG_mono HPOS.out (a := k + 1) (b := n) (by omega)
            rw [HSS.out] at s1
            have s2 := HFN.out
            have s3 := HPOS.out k
            rw [show toldF A T k = T (A.idxs.getD k 0) from rfl] at s3
            generalize A.hd (A.idxs.getD k 0) = hx at *
            generalize sumG (toldF A T) k = bk at *
            generalize sumG (toldF A T) n = bn at *
            obtain ⟨t, hti⟩ : ∃ t, t = T (A.idxs.getD k 0) := ⟨_, rfl⟩
            rw [← hti] at HTK HSS s1 s3
            clear hti
            obtain ⟨tp, ts, tn, tf, ⟨kg, ko, kn, kd, kc, kt⟩⟩ := t
            dsimp only at HTK HSS s1 s3
            have HS9 := Lib.hid (show g + bk + kg = g + (bk + kg) from Int.add_assoc _ _ _)
            clear s2
            have t0 : 0 ≤ g + bk := by omega
            have t1 : g + bk + kg ≤ 200 := by have := HFN.out; omega
            clear s0 s1
            go_wp2_with fail
            refine HTK.out.mono ?_
            rintro e w3 ⟨s3', rfl, hJ3, hb3⟩
            obtain ⟨⟨p3, cp3, rfl, _, _⟩, _⟩ := hJ3
            have HB3 := Lib.hid (bnext HBX.out hb3)
            clear hb3
            go_wp2_with fail
            go_roundw
            case rel => exact ⟨k + 1, by go_num, by omega, by rw [HSS.out, HS9.out], Lib.hid (HB3.out.alloc HB3.out.size _)⟩
            case measure => simp [intOf]; omega
          · have hkk : k = n := by omega
            subst hkk
            have hfin := HFN.out
            rw [hfin]
            have HB9 := Lib.hid (bnext HU.out.2.2 (bnext HB2.out HBX.out))
            clear hfin
            go_wp2_with fail
            refine (HSU.out _).mono ?_
            rintro e w9 ⟨rfl, hb9⟩
            have HB10 := Lib.hid (bnext HB9.out hb9)
            clear hb9
            go_wp2_with fail
            go_ret
            exact ⟨rfl, HB10.out⟩
      · have hge' : decide (i < m) = false := decide_eq_false hlt1
        clear hlt
        go_wp2_with fail
        refine HALL.out.mono ?_
        rintro e w2 ⟨r, rfl, hl, hb2⟩
        obtain ⟨pa, ca, rfl, hh⟩ := lst_hnd hl
        have HH := Lib.hid hh
        have HB2 := Lib.hid hb2
        have HFD := Lib.hid (fun (j : Nat) (hj : j < A.idxs.length) => find_hd HG.out.tab (idxs_at hj).1 (idxs_at hj).2)
        have hn8 : A.idxs.length ≤ 8 := by have := idxTo_len A.t A.n; have e8 : A.n = 8 := HG.out.len; show (idxTo A.t A.n).length ≤ 8; omega
        clear hl hh hb2
        generalize hnn : A.idxs.length = n at *
        have HNN := Lib.hid hnn
        have HPOS := Lib.hid (show ∀ j, 0 ≤ (toldF A T j).k.g from fun j => (HG.out.ok _).2.2.2.1.1.1)
        clear hnn hge'
        go_wp2_with fail
        go_loopw [21, 23] (fun sv kv wx => ∃ k : Nat, kv = .int .i64 k ∧ k ≤ n ∧ sv = .int .i64 (g + sumG (toldF A T) k) ∧ Hid (Below w2.heap.size w2 wx)) (fun _ kv _ => n - (intOf kv).toNat)
        case atStart => exact ⟨0, rfl, Nat.zero_le _, by simp [sumG], Lib.hid (Below.refl _ _)⟩
        case round =>
          obtain ⟨k, rfl, hkn, rfl, HBX⟩ := hrel
          have HLX := Lib.hid (HU.out.2.1.below (bnext HB2.out HBX.out))
          obtain ⟨u0, g0, gu, ui⟩ := HUB.out
          by_cases hk : k < n
          · have hk' : (k : Int) < (n : Int) := by omega
            have y0 : (0 : Int) ≤ (k : Int) := by omega
            obtain ⟨ba, oa, rfl, hca⟩ := (HH.out.below HBX.out) k (by rw [HNN.out]; exact hk)
            have HTK := Lib.hid (ltask_some S S (fun _ => False) w.heap.size A T HG.out _ _ HLX.out (A.hd (A.idxs.getD k 0)) (fun _ k => k.elim) (A.idxs.getD k 0) (HFD.out k hk))
            have HSS := Lib.hid (show sumG (toldF A T) (k + 1) = sumG (toldF A T) k + (T (A.idxs.getD k 0)).k.g from rfl)
            have s0 := sumG_pos HPOS.out k
            have s1 := sumG_mono HPOS.out (a := k + 1) (b := n) (by omega)
            rw [HSS.out] at s1
            have s2 := HFN.out
            have s3 := HPOS.out k
            rw [show toldF A T k = T (A.idxs.getD k 0) from rfl] at s3
            generalize A.hd (A.idxs.getD k 0) = hx at *
            generalize sumG (toldF A T) k = bk at *
            generalize sumG (toldF A T) n = bn at *
            obtain ⟨t, hti⟩ : ∃ t, t = T (A.idxs.getD k 0) := ⟨_, rfl⟩
            rw [← hti] at HTK HSS s1 s3
            clear hti
            obtain ⟨tp, ts, tn, tf, ⟨kg, ko, kn, kd, kc, kt⟩⟩ := t
            dsimp only at HTK HSS s1 s3
            have HS9 := Lib.hid (show g + bk + kg = g + (bk + kg) from Int.add_assoc _ _ _)
            clear s2
            have t0 : 0 ≤ g + bk := by omega
            have t1 : g + bk + kg ≤ 200 := by have := HFN.out; omega
            clear s0 s1
            go_wp2_with fail
            refine HTK.out.mono ?_
            rintro e w3 ⟨s3', rfl, hJ3, hb3⟩
            obtain ⟨⟨p3, cp3, rfl, _, _⟩, _⟩ := hJ3
            have HB3 := Lib.hid (bnext HBX.out hb3)
            clear hb3
            go_wp2_with fail
            go_roundw
            case rel => exact ⟨k + 1, by go_num, by omega, by rw [HSS.out, HS9.out], Lib.hid (HB3.out.alloc HB3.out.size _)⟩
            case measure => simp [intOf]; omega
          · have hkk : k = n := by omega
            subst hkk
            have hfin := HFN.out
            rw [hfin]
            have HB9 := Lib.hid (bnext HU.out.2.2 (bnext HB2.out HBX.out))
            clear hfin
            go_wp2_with fail
            refine (HSU.out _).mono ?_
            rintro e w9 ⟨rfl, hb9⟩
            have HB10 := Lib.hid (bnext HB9.out hb9)
            clear hb9
            go_wp2_with fail
            go_ret
            exact ⟨rfl, HB10.out⟩
end Go.Proofs.Ythbkinopgialmaa
