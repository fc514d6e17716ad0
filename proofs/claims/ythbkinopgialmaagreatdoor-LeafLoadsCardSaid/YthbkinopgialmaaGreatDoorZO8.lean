/- Texts of stages 3, 4, 12 and 13 that stand together: ZLeafD ZApp ZRefP ZRefQ ZRefR ZNewR ZSSlotsR; no condition but those that each row names. -/
import Derived.Test.YthbkinopgialmaaGreatDoorZO2
import Derived.Test.YthbkinopgialmaaGreatDoorZO4
import Derived.Test.YthbkinopgialmaaGreatDoorZO5
import Derived.Test.YthbkinopgialmaaGreatDoorZO6
import Derived.Test.YthbkinopgialmaaGreatDoorZO7
import Derived.Deep.Quiet
import Derived.Deep.QuietTactic
import Derived.Deep.RegionLaw
import Derived.Deep.RegionWith
/- The program's leaf: Load, Clone; no condition but those that each row names. -/
namespace Go.Proofs.YthbkinopgialmaaGreatDoor
open Go.RowKit Tsk

/-- May slots and tasks be a leaf? -/
def okLoad (gens : List Int) (taken : List Bool) (m : Nat) (TT : Nat → Tk) : Prop := gens.length = 8 ∧ ((taken.length = gens.length ∧ standB gens taken gens.length) ∧ m = rank taken taken.length) ∧ ∀ j, j < m → okTk (TT j)
theorem ok8_load {gens : List Int} {taken : List Bool} {L : List Int} (h8 : gens.length = 8) (hl : taken.length = gens.length) (ho : standB gens taken gens.length) (hL : L.length = 8) : (loadTo 2 gens taken L).Good := by
  have h := load_good (kind := 2) (gens := gens) (taken := taken) (things := []) (by omega) (by omega) (by omega) (by omega) hl ho
  exact ⟨h.k1, h.k3, h.n1, h.n4, h.lt, by show L.length = gens.length; omega, h.g1, h.gt⟩
theorem rank_idxs {A : Tab} {j : Nat} (hj : j < A.idxs.length) : rank A.taken (A.idxs.getD j 0) = j := by
  obtain ⟨h1, h2⟩ := idxs_at hj
  have h3 := idxs_rank A h1 h2
  have hnd : A.idxs.Nodup := List.Pairwise.filter _ List.nodup_range
  have h4 : A.idxs[j]? = some (A.idxs.getD j 0) := by rw [List.getD_eq_getElem?_getD, List.getElem?_eq_getElem hj]; rfl
  have h5 : rank A.taken (A.idxs.getD j 0) < A.idxs.length := (List.getElem?_eq_some_iff.1 h3).1
  exact (List.getElem?_inj h5 hnd).1 (h3.trans h4.symm)
set_option maxHeartbeats 2000000 in
set_option maxRecDepth 100000 in
theorem lload_no1 (gens : List Int) (v x y : Value) (w : World) (hv : Lst (fun _ => False) w v (ints gens)) (h8 : ¬ gens.length = 8) :
    Calls Tryz.prog 10 #[v, x, y] w fun e w' => e = .returned (.tuple #[.pointer none, errV 270]) ∧ Below w.heap.size w w' := by
  obtain ⟨p, cp, rfl, _, _⟩ := hv
  rw [ints_len]
  have hd : ((gens.length : Int) != 8) = true := by rw [bne_iff_ne]; omega
  have hd2 : ¬ gens.length = 8 := h8
  go_enter Tryz.func10, Tryz.ntmps10
  go_wp2_with fail
  go_ret2
  exact ⟨rfl, Below.refl _ _⟩
set_option maxHeartbeats 2000000 in
set_option maxRecDepth 100000 in
theorem lload_no2 (gens : List Int) (taken : List Bool) (m : Nat) (TT : Nat → Tk) (v x y : Value) (w : World) (hv : Lst (fun _ => False) w v (ints gens)) (hx : Lst (fun _ => False) w x (bools taken)) (hy : Tasks w y m TT) (h8 : gens.length = 8) (h : ¬ ((taken.length = gens.length ∧ standB gens taken gens.length) ∧ m = rank taken taken.length)) :
    Calls Tryz.prog 10 #[v, x, y] w fun e w' => e = .returned (.tuple #[.pointer none, errV 270]) ∧ Below w.heap.size w w' := by
  have HK := Lib.hid (kload_no2 (fun _ => False) 2 gens taken m TT v x y w hv hx hy (by omega) (by omega) (by omega) (by omega) h)
  obtain ⟨p, cp, rfl, _, _⟩ := hv
  rw [ints_len] at HK ⊢
  rw [h8] at HK ⊢
  clear h h8 hx hy
  go_enter Tryz.func10, Tryz.ntmps10
  go_wp2_with fail
  refine HK.out.mono ?_
  rintro e w1 ⟨rfl, hb⟩
  have HB := Lib.hid hb
  clear hb
  go_wp2_with fail
  go_ret2
  exact ⟨rfl, HB.out⟩
/-- While the tasks get jobs of their own: the table, the slots' jobs in none of its blocks, those of the slots that are done new. -/
def LoadI (w : World) (A : Tab) (T : Nat → Tk) (ST : Nat → Prop) (tv : Value) (k : Nat) (wr : World) : Prop :=
  ∃ sl, PKTab ST w.heap.size wr A (tm T sl) tv ∧ (∀ i, JobsX (fun x => ST x ∨ (x < w.heap.size ∧ (A.t i = false ∨ rank A.taken i < k))) wr (sl i) (T i).n (T i).f) ∧ Below w.heap.size w wr
theorem LoadI.bel {w wr : World} {A : Tab} {T : Nat → Tk} {ST : Nat → Prop} {tv : Value} {k : Nat} (h : LoadI w A T ST tv k wr) : Below w.heap.size w wr := by
  obtain ⟨_, _, _, hb⟩ := h
  exact hb
theorem LoadI.under {w wr w' : World} {A : Tab} {T : Nat → Tk} {ST : Nat → Prop} {tv : Value} {k : Nat} (h : LoadI w A T ST tv k wr) (hb : Below wr.heap.size wr w') : LoadI w A T ST tv k w' := by
  obtain ⟨sl, h1, h2, h3⟩ := h
  exact ⟨sl, h1.below hb, fun i => (h2 i).below hb, bnext h3 hb⟩
theorem t_len2 {A : Tab} (h : A.Good) {j : Nat} (hj : A.t j = true) : j < A.gens.length := by
  rw [← h.lt]
  unfold Tab.t at hj
  rcases Nat.lt_or_ge j A.taken.length with k | k
  · exact k
  · rw [List.getD_eq_getElem?_getD, List.getElem?_eq_none k] at hj; cases hj
theorem LoadI.start {w w1 : World} {A : Tab} {taken : List Bool} {TT : Nat → Tk} {m n8 : Nat} {ST : Nat → Prop} {tv y : Value} (hA : A.taken = taken) (h : PKTab ST w.heap.size w1 A (fillT taken TT n8) tv) (hb : Below w.heap.size w w1) (hy : Tasks w y m TT) (hr : ∀ i, A.t i = true → rank taken i < m) : LoadI w A (fillT taken TT n8) ST tv 0 w1 := by
  subst hA
  refine ⟨fun i => (fillT A.taken TT n8 i).s, h, fun i => ?_, hb⟩
  show JobsX _ w1 (fillT A.taken TT n8 i).s (fillT A.taken TT n8 i).n (fillT A.taken TT n8 i).f
  by_cases c : i < n8 ∧ A.taken.getD i false = true
  · have e1 : fillT A.taken TT n8 i = TT (rank A.taken i) := if_pos c
    rw [e1]
    obtain ⟨p, cap, rfl, _, hc⟩ := hy
    obtain ⟨b, off, _, _, _, _, _, _, _, _, _, hJ⟩ := hc (rank A.taken i) (hr i c.2)
    refine ⟨hJ.below hb, fun a n' c' e h0 k => ?_⟩
    have h1 := hJ.lt a n' c' e (by
      obtain ⟨p0, c0, e0, _⟩ := hJ
      rw [e] at e0
      cases e0
      exact h0)
    rcases k with k | ⟨_, k | k⟩
    · have := (h.lt _ k).1; omega
    · have : A.t i = true := c.2
      rw [this] at k; cases k
    · omega
  · have e1 : fillT A.taken TT n8 i = tk0 := if_neg c
    rw [e1]
    exact JobsX.nil _ _ _
theorem LoadI.step {w wr w5 w6 : World} {A : Tab} {T : Nat → Tk} {ST : Nat → Prop} {tv : Value} {k : Nat} (h : LoadI w A T ST tv k wr) (hg : A.Good) {sl : Nat → Value} (hj : ∀ i, JobsX (fun x => ST x ∨ (x < w.heap.size ∧ (A.t i = false ∨ rank A.taken i < k))) wr (sl i) (T i).n (T i).f) (h5 : Below wr.heap.size wr w5) (hST : ∀ x, ST x → x < wr.heap.size)
    {p : Int} {s : Value} {n : Nat} {f : Nat → Jb} {kk : Ac} (hT : T (A.idxs.getD k 0) = ⟨p, s, n, f, kk⟩) {s' : Value} (ho : JobsO wr.heap.size w5 s' n f) (hn : n ≤ 9223372036854775807) (ht : PKTab ST w.heap.size w6 A (upd (tm T sl) (A.idxs.getD k 0) ⟨p, s', n, f, kk⟩) tv) (hkp : Keeps ST w5 w6) : LoadI w A T ST tv (k + 1) w6 := by
  have hb := h.bel
  have hbel : Below w.heap.size w w6 := below_keeps (bnext hb h5) hkp (fun x hx => (ht.lt x hx).1)
  refine ⟨upd sl (A.idxs.getD k 0) s', by rw [tm_upd2, hT]; exact ht, fun i => ?_, hbel⟩
  by_cases e : i = A.idxs.getD k 0
  · rw [e, upd_same, hT]
    have h1 : JobsX (fun x => ST x ∨ x < w.heap.size) w5 s' n f := JobsX.own ho hn (fun x hx => by
      rcases hx with hx | hx
      · exact hST x hx
      · have := hb.size; omega)
    exact (h1.mono (fun x _ hx => by rcases hx with hx | hx; exact .inl hx; exact .inr hx.1)).keeps hkp (fun x hx => .inl hx)
  · rw [upd_ne _ e]
    refine (((hj i).below h5).mono (fun x _ hx => ?_)).keeps hkp (fun x hx => .inl hx)
    rcases hx with hx | ⟨hx, hq | hq⟩
    · exact .inl hx
    · exact .inr ⟨hx, .inl hq⟩
    · refine .inr ⟨hx, ?_⟩
      cases hti : A.t i with
      | false => exact .inl rfl
      | true =>
        right
        rcases Nat.lt_or_ge (rank A.taken i) k with q | q
        · exact q
        · exfalso
          have e2 : rank A.taken i = k := by omega
          have h3 := idxs_rank A (t_len2 hg hti) hti
          rw [e2] at h3
          refine e ?_
          rw [List.getD_eq_getElem?_getD, h3]
          rfl
/-- What Load answers of what may be. -/
def LoadPost (w : World) (A : Tab) (T : Nat → Tk) (e : Ending) (w' : World) : Prop :=
  ∃ S v, e = .returned (.tuple #[v, .nilIface]) ∧ (∀ X : Nat → Prop, (∀ x, X x → x < w.heap.size) → Lf S (fun x => X x ∨ S x) w.heap.size w' A T v) ∧ Below w.heap.size w w'
theorem LoadI.fin {w wr : World} {A : Tab} {T : Nat → Tk} {ST : Nat → Prop} {tv : Value} {m : Nat} (h : LoadI w A T ST tv m wr) (hr : ∀ i, A.t i = true → rank A.taken i < m) : LoadPost w A T (.returned (.tuple #[.pointer (some ⟨wr.heap.size, 0, none⟩), .nilIface])) (wr.alloc (.cells #[tv] 63)) := by
  obtain ⟨sl, h1, h2, h3⟩ := h
  have hb : Below wr.heap.size wr (wr.alloc (.cells #[tv] 63)) := (Below.refl _ _).alloc (Nat.le_refl _) _
  refine ⟨fun x => x = wr.heap.size ∨ ST x, _, rfl, fun X hX => ⟨sl, wr.heap.size, ST, tv, rfl, by simp, h1.below hb, ⟨h3.size, fun k => by have := (h1.lt _ k).2; omega⟩, rfl, fun i => ?_⟩, h3.alloc h3.size _⟩
  refine ((h2 i).mono fun x hx hy => ?_).below hb
  rcases hy with hy | hy | hy
  · refine .inr ⟨hX x hy, ?_⟩
    cases hti : A.t i with
    | false => exact .inl rfl
    | true => exact .inr (hr i hti)
  · omega
  · exact .inl hy
def LoadAny (w : World) (ok : Prop) (A : Tab) (T : Nat → Tk) (e : Ending) (w' : World) : Prop := (ok ∧ LoadPost w A T e w') ∨ (¬ ok ∧ e = .returned (.tuple #[.pointer none, errV 270]) ∧ Below w.heap.size w w')
set_option maxHeartbeats 4000000 in
set_option maxRecDepth 100000 in
theorem lload_mid (gens : List Int) (taken : List Bool) (m : Nat) (TT : Nat → Tk) (L : List Int) (v x y : Value) (w : World) (hv : Lst (fun _ => False) w v (ints gens)) (hx : Lst (fun _ => False) w x (bools taken)) (hy : Tasks w y m TT) (hok : ∀ j, j < m → (TT j).k.c ≤ 9223372036854775807 ∧ (TT j).n * 32 ≤ 140737488355328) (h8 : gens.length = 8) (hL : L.length = 8) (h : (taken.length = gens.length ∧ standB gens taken gens.length) ∧ m = rank taken taken.length) :
    Calls Tryz.prog 10 #[v, x, y] w (LoadAny w (∀ j, j < m → okTk (TT j)) (loadTo 2 gens taken L) (fillT taken TT 8)) := by
  have HK := Lib.hid (kload_ok (fun _ => False) 2 gens taken m TT L v x y w hv hx hy (by omega) (by omega) (by omega) (by omega) h.1.1 h.1.2 h.2)
  have HA := Lib.hid (ok8_load h8 h.1.1 h.1.2 hL)
  have hri : (loadTo 2 gens taken L).idxs.length = m := by rw [idxs_count, h.2, h.1.1]
  have HRI := Lib.hid hri
  have HRK := Lib.hid (show ∀ i, (loadTo 2 gens taken L).t i = true → rank taken i < m from fun i hi => by
    have h1 := idxs_rank (loadTo 2 gens taken L) (t_len2 HA.out hi) hi
    have h2 := (List.getElem?_eq_some_iff.1 h1).1
    rw [hri] at h2
    exact h2)
  have HFT := Lib.hid (show ∀ k, k < m → fillT taken TT 8 ((loadTo 2 gens taken L).idxs.getD k 0) = TT k from fun k hk => by
    have hk' : k < (loadTo 2 gens taken L).idxs.length := by rw [hri]; exact hk
    obtain ⟨h1, h2⟩ := idxs_at hk'
    have h3 := rank_idxs hk'
    unfold fillT
    rw [if_pos ⟨by have e8 : (loadTo 2 gens taken L).gens.length = 8 := h8; omega, h2⟩]
    exact congrArg TT h3)
  have HY := Lib.hid hy
  have HOK := Lib.hid hok
  obtain ⟨p, cp, rfl, _, _⟩ := hv
  obtain ⟨p2, cp2, rfl, hm63, _⟩ := hy
  rw [ints_len] at HK ⊢
  rw [h8] at HK ⊢
  generalize hAA : loadTo 2 gens taken L = A at *
  have hAt : A.taken = taken := by rw [← hAA]
  have HAT := Lib.hid hAt
  clear hAA hAt h8 h hx hok hri
  go_enter Tryz.func10, Tryz.ntmps10
  go_wp2_with fail
  refine HK.out.mono ?_
  rintro e w1 ⟨ST, tv, rfl, hpt, hb1⟩
  have HI1 := Lib.hid (LoadI.start HAT.out hpt hb1 HY.out HRK.out)
  have HALL := Lib.hid (kall ST ST w.heap.size A HA.out _ w1 tv hpt (fun x hx => (hpt.lt x hx).2))
  obtain ⟨b, g1, c1, g2, c2, g3, c3, rfl, _⟩ := hpt
  clear hb1
  go_wp2_with fail
  refine HALL.out.mono ?_
  rintro e w2 ⟨r, rfl, hl, hb2⟩
  obtain ⟨pa, ca, rfl, _, hal⟩ := hl
  have el : (ints A.all).length = m := by rw [ints_len, all_len]; exact HRI.out
  rw [el]
  have HH := Lib.hid (show ∀ j, j < m → ∃ ba oa, pa = some ⟨ba, oa, none⟩ ∧ ¬ ST ba ∧ w2.cell? ⟨ba, oa + j, none⟩ = some (.int .i64 (A.hd (A.idxs.getD j 0))) from fun j hj => by
    obtain ⟨ba, oa, e, hn, hca⟩ := hal j _ (all_at (by rw [HRI.out]; exact hj))
    exact ⟨ba, oa, e, hn, hca⟩)
  have HI2 := Lib.hid (HI1.out.under hb2)
  have HB2 := Lib.hid (Below.refl w2.heap.size w2)
  have HBB := Lib.hid hb2
  clear hal el hb2
  go_wp2_with fail
  go_loopw [29] (fun iv wr => ∃ k : Nat, iv = .int .i64 k ∧ k ≤ m ∧ Hid (∀ j, j < k → okTk (TT j)) ∧ Hid (LoadI w A (fillT taken TT 8) ST (.pointer (some ⟨b, 0, none⟩)) k wr) ∧ Hid (Keeps ST w2 wr)) (fun iv _ => m - (intOf iv).toNat)
  case atStart => exact ⟨0, rfl, Nat.zero_le _, Lib.hid (fun j hj => absurd hj (Nat.not_lt_zero _)), HI2, Lib.hid (Keeps.refl _ _)⟩
  case round =>
    obtain ⟨k, rfl, hk, HOKS, HI, HKP⟩ := hrel
    by_cases hkm : k < m
    · have hkm' : (k : Int) < (m : Int) := by omega
      have z0 : (0 : Int) ≤ (k : Int) := by omega
      obtain ⟨sl, hpk, hjx, hbr⟩ := HI.out
      have HPK := Lib.hid hpk
      have HJX := Lib.hid hjx
      have HBR := Lib.hid hbr
      have HSTL := Lib.hid (fun x hx => (hpk.lt x hx).2)
      obtain ⟨_, _, e, _, hc⟩ := HY.out.below hbr
      simp only [Value.slice.injEq] at e
      obtain ⟨b3, o3, e3, d0, d1, d2, d3, d4, d5, d6, d7, hJ⟩ := hc k hkm
      have e4 : p2 = some ⟨b3, o3, none⟩ := by rw [e.1]; exact e3
      subst e4
      obtain ⟨ba, oa, rfl, hnS, hca⟩ := HH.out k hkm
      have hcb := (HKP.out.cell (p := ⟨ba, oa + k, none⟩) (cell_lt hca) hnS).trans hca
      obtain ⟨hq1, hq2⟩ := idxs_at (A := A) (j := k) (by rw [HRI.out]; exact hkm)
      have HFQ := Lib.hid (find_hd HA.out hq1 hq2)
      have HFK := Lib.hid (HFT.out k hkm)
      obtain ⟨hkc, hkn⟩ := HOK.out k hkm
      obtain ⟨t, hti⟩ : ∃ t, t = TT k := ⟨_, rfl⟩
      have HTI := Lib.hid hti
      rw [← hti] at d0 d1 d2 d3 d4 d5 d6 d7 hJ hkc hkn HFK
      clear e e3 hc hti hca hnS hq1 hq2 hjx
      obtain ⟨q0, cp0, hs0, _⟩ := id hJ
      obtain ⟨tp, ts, tn, tf, ⟨kg, ko, kn, kd, kc, kt⟩⟩ := t
      dsimp only at d0 d1 d2 d3 d4 d5 d6 d7 hJ hkc hkn HFK hs0
      subst hs0
      have HJ := Lib.hid hJ
      have HV := Lib.hid (pvalid tp (.slice q0 tn cp0) tn tf ⟨kg, ko, kn, kd, kc, kt⟩ wr hJ hkc)
      have HTW := Lib.hid (fun W (hb : Below wr.heap.size wr W) => ltwin tp (.slice q0 tn cp0) tn tf ⟨kg, ko, kn, kd, kc, kt⟩ W (hJ.below hb) hkn)
      have HST := Lib.hid (fun W (hb : Below wr.heap.size wr W) p' q n c f kk => kset_some ST w.heap.size A HA.out (tm (fillT taken TT 8) sl) W _ (HPK.out.below hb) (A.hd (A.idxs.getD k 0)) p' q n c f kk (A.idxs.getD k 0) HFQ.out)
      have hn63 : tn ≤ 9223372036854775807 := by omega
      have HN63 := Lib.hid hn63
      have hbl3 : b3 < wr.heap.size := cell_lt d0
      have HX := Lib.hid (fun W (hb : Below wr.heap.size wr W) => (show _ ∧ _ ∧ _ ∧ _ ∧ _ ∧ _ ∧ _ ∧ _ from ⟨(hb.cell (p := ⟨b3, o3 + k * 8, none⟩) hbl3).trans d0, (hb.cell (p := ⟨b3, o3 + k * 8 + 1, none⟩) hbl3).trans d1, (hb.cell (p := ⟨b3, o3 + k * 8 + 2, none⟩) hbl3).trans d2, (hb.cell (p := ⟨b3, o3 + k * 8 + 3, none⟩) hbl3).trans d3, (hb.cell (p := ⟨b3, o3 + k * 8 + 4, none⟩) hbl3).trans d4, (hb.cell (p := ⟨b3, o3 + k * 8 + 5, none⟩) hbl3).trans d5, (hb.cell (p := ⟨b3, o3 + k * 8 + 6, none⟩) hbl3).trans d6, (hb.cell (p := ⟨b3, o3 + k * 8 + 7, none⟩) hbl3).trans d7⟩))
      generalize A.hd (A.idxs.getD k 0) = hx at *
      clear hpk hbr hJ hkc hkn hn63
      by_cases hv : okT tp tn tf ⟨kg, ko, kn, kd, kc, kt⟩
      · have HOV := Lib.hid (show okTk (TT k) from by rw [← HTI.out]; exact hv)
        rw [show validE tp tn tf ⟨kg, ko, kn, kd, kc, kt⟩ = 0 from if_pos hv, errV_0] at HV
        clear hv
        go_wp2_with fail
        refine HV.out.mono ?_
        rintro e w3 ⟨rfl, hb3⟩
        have HB3 := Lib.hid hb3
        have HX3 := Lib.hid (HX.out w3 hb3)
        clear d0 d1 d2 d3 d4 d5 d6 d7 hb3
        have d0 := HX3.out.1
        have d1 := HX3.out.2.1
        have d2 := HX3.out.2.2.1
        have d3 := HX3.out.2.2.2.1
        have d4 := HX3.out.2.2.2.2.1
        have d5 := HX3.out.2.2.2.2.2.1
        have d6 := HX3.out.2.2.2.2.2.2.1
        have d7 := HX3.out.2.2.2.2.2.2.2
        go_wp2_with fail
        refine (HTW.out w3 HB3.out).mono ?_
        rintro e w5 ⟨y5, rfl, s5, c5, rfl, ho5, hb5⟩
        have HB5 := Lib.hid (bnext HB3.out hb5)
        have HO5 := Lib.hid (own_base2 ho5 HB3.out.size)
        clear ho5 hb5 d0 d1 d2 d3 d4 d5 d6 d7
        go_wp2_with fail
        refine (HST.out w5 HB5.out tp s5 tn c5 tf ⟨kg, ko, kn, kd, kc, kt⟩).mono ?_
        rintro e w6 ⟨rfl, ht6, hk6⟩
        have HR6 := Lib.hid (HI.out.step HA.out HJX.out HB5.out HSTL.out HFK.out HO5.out HN63.out ht6 hk6)
        have HK6 := Lib.hid ((HKP.out.trans (Keeps.of_below HB5.out)).trans hk6)
        clear ht6 hk6
        go_wp2_with fail
        go_roundw
        case rel =>
          refine ⟨k + 1, by go_num, by omega, Lib.hid fun j hj => ?_, HR6, HK6⟩
          by_cases ej : j = k
          · rw [ej]; exact HOV.out
          · exact HOKS.out j (by omega)
        case measure => simp [intOf]; omega
      · have HNV := Lib.hid (show ¬ ∀ j, j < m → okTk (TT j) from fun hh => hv (by have h1 := hh k hkm; rw [← HTI.out] at h1; exact h1))
        rw [show validE tp tn tf ⟨kg, ko, kn, kd, kc, kt⟩ = 270 from if_neg hv, errV_ne (by decide)] at HV
        clear hv
        go_wp2_with fail
        refine HV.out.mono ?_
        rintro e w3 ⟨rfl, hb3⟩
        have HB3 := Lib.hid (bnext HBR.out hb3)
        clear hb3 d0 d1 d2 d3 d4 d5 d6 d7
        go_wp2_with fail
        go_ret2
        exact .inr ⟨HNV.out, rfl, HB3.out⟩
    · have hkk : k = m := by omega
      subst hkk
      have HF := Lib.hid (HI.out.fin (by rw [HAT.out]; exact HRK.out))
      have HO2 := Lib.hid HOKS.out
      go_wp2_with fail
      go_ret2
      exact .inl ⟨HO2.out, HF.out⟩
theorem lload (gens : List Int) (taken : List Bool) (m : Nat) (TT : Nat → Tk) (L : List Int) (v x y : Value) (w : World) (hv : Lst (fun _ => False) w v (ints gens)) (hx : Lst (fun _ => False) w x (bools taken)) (hy : Tasks w y m TT) (hok : ∀ j, j < m → (TT j).k.c ≤ 9223372036854775807 ∧ (TT j).n * 32 ≤ 140737488355328) (hL : L.length = 8) :
    Calls Tryz.prog 10 #[v, x, y] w (LoadAny w (okLoad gens taken m TT) (loadTo 2 gens taken L) (fillT taken TT 8)) := by
  by_cases h8 : gens.length = 8
  · by_cases h : (taken.length = gens.length ∧ standB gens taken gens.length) ∧ m = rank taken taken.length
    · refine (lload_mid gens taken m TT L v x y w hv hx hy hok h8 hL h).mono fun e w' hh => ?_
      rcases hh with ⟨h1, h2⟩ | ⟨h1, h2⟩
      · exact .inl ⟨⟨h8, h, h1⟩, h2⟩
      · exact .inr ⟨fun hh => h1 hh.2.2, h2⟩
    · exact (lload_no2 gens taken m TT v x y w hv hx hy h8 h).mono fun e w' hh => .inr ⟨fun k => h k.2.1, hh⟩
  · exact (lload_no1 gens v x y w hv h8).mono fun e w' hh => .inr ⟨fun k => h8 k.1, hh⟩
theorem Lf_tm {S X : Nat → Prop} {B : Nat} {w : World} {A : Tab} {T : Nat → Tk} {v : Value} {s : Nat → Value} (h : Lf S X B w A (tm T s) v) : Lf S X B w A T v := h
theorem stand_good {A : Tab} (h : A.Good) : standB A.gens A.taken A.gens.length := fun i hi => by
  have h1 := h.g1 i hi
  refine ⟨h1.1, ?_⟩
  show A.g i ≤ _
  by_cases ht : A.taken.getD i false = true
  · rw [if_pos ht]; exact h.gt i hi ht
  · rw [if_neg ht]; exact h1.2
set_option maxHeartbeats 1000000 in
set_option maxRecDepth 100000 in
theorem lclone (S X : Nat → Prop) (B : Nat) (A : Tab) (T : Nat → Tk) (hg : LGood A T) (hz : ∀ i, A.t i = false → T i = tk0) (w : World) (v : Value) (h : Lf S X B w A T v) :
    Calls Tryz.prog 14 #[v] w fun e w' => ∃ S' v', e = .returned v' ∧ (∀ X : Nat → Prop, (∀ x, X x → x < w.heap.size) → Lf S' (fun x => X x ∨ S' x) w.heap.size w' A T v') ∧ Below w.heap.size w w' := by
  have HSV := Lib.hid (lsave S X B A T hg w v h)
  have hll := hg.tab.ll
  have hl8 := hg.len
  have hLd := Lib.hid (fun W g c sf gs ts (h1 : Lst (fun _ => False) W gs (ints A.gens)) (h2 : Lst (fun _ => False) W ts (bools A.taken)) (h3 : Tasks W (.slice (some ⟨g, 0, none⟩) A.idxs.length c) A.idxs.length (tm (toldF A T) sf)) =>
    lload A.gens A.taken A.idxs.length (tm (toldF A T) sf) A.list gs ts _ W h1 h2 h3 (fun j _ => ⟨okT_c (hg.ok _), by have := (hg.ok (A.idxs.getD j 0)).2.1; show (T (A.idxs.getD j 0)).n * 32 ≤ _; omega⟩) (by omega))
  have HOK := Lib.hid (show ∀ sf, okLoad A.gens A.taken A.idxs.length (tm (toldF A T) sf) from fun sf => ⟨hl8, ⟨⟨hg.tab.lt, stand_good hg.tab⟩, by rw [idxs_count, hg.tab.lt]⟩, fun j _ => hg.ok _⟩)
  have HEQ := Lib.hid (show ∀ sf, loadTo 2 A.gens A.taken A.list = A ∧ ∃ s2, fillT A.taken (tm (toldF A T) sf) 8 = tm T s2 from fun sf => ⟨by rw [← hg.kind], fun i => if i < 8 ∧ A.taken.getD i false = true then sf (rank A.taken i) else .slice none 0 0, by
    funext i
    unfold fillT
    by_cases c : i < 8 ∧ A.taken.getD i false = true
    · rw [if_pos c]
      have h1 := idxs_rank A (i := i) (by omega) c.2
      have h2 : A.idxs.getD (rank A.taken i) 0 = i := by rw [List.getD_eq_getElem?_getD, h1]; rfl
      unfold tm toldF
      simp only [h2, if_pos c]
    · rw [if_neg c]
      have hti : A.t i = false := by
        cases hti : A.t i with
        | false => rfl
        | true => exact absurd ⟨by have := t_len2 hg.tab hti; omega, hti⟩ c
      unfold tm
      simp only [hz i hti, if_neg c]⟩)
  obtain ⟨_, bl, _, _, rfl, _⟩ := h
  unfold SavePost at HSV
  clear hg hz hll hl8
  go_enter Tryz.func14, Tryz.ntmps14
  go_wp2_with fail
  refine HSV.out.mono ?_
  rintro e w1 ⟨gs, ts, g, c, sf, rfl, h1, h2, h3, hb1⟩
  have HB1 := Lib.hid hb1
  have HL := Lib.hid (hLd.out w1 g c sf gs ts h1 h2 h3)
  clear h1 h2 h3 hb1
  go_wp2_with fail
  refine HL.out.mono ?_
  intro e w2 hh
  rcases hh with ⟨_, S', v', rfl, hX, hb2⟩ | ⟨hn, _⟩
  · have HX := Lib.hid hX
    have HB2 := Lib.hid (bnext HB1.out hb2)
    have HS1 := Lib.hid (HB1.out.size)
    clear hX hb2
    go_wp2_with fail
    go_ret
    obtain ⟨e1, s2, e2⟩ := HEQ.out sf
    refine ⟨S', v', rfl, fun X hX => ?_, HB2.out⟩
    have h9 := HX.out X (fun x hx => Nat.lt_of_lt_of_le (hX x hx) HS1.out)
    rw [e1, e2] at h9
    obtain ⟨sl, bl', ST, tv, ev, hc, ht, ⟨hbb, hns⟩, hS, hj⟩ := Lf_tm h9
    obtain ⟨b, g1, c1, g2, c2, g3, c3, ev2, hp, hST⟩ := ht
    exact ⟨sl, bl', ST, tv, ev, hc, ⟨b, g1, c1, g2, c2, g3, c3, ev2, ⟨hp.f0, hp.f1, hp.f2, hp.f3, ⟨own_base2 hp.own.g HS1.out, own_base2 hp.own.t HS1.out, own_base2 hp.own.l HS1.out, hp.own.n12, hp.own.n13, hp.own.n23⟩, Nat.le_trans HS1.out hp.hb, hp.n1, hp.n2, hp.n3⟩, hST⟩, ⟨Nat.le_trans HS1.out hbb, hns⟩, hS, hj⟩
  · exact absurd (HOK.out sf) hn
end Go.Proofs.YthbkinopgialmaaGreatDoor
/- What an append of tasks makes; no condition but those that each row names. -/
namespace Go.Proofs.YthbkinopgialmaaGreatDoor
open Go.RowKit Tsk

/-- What is appended: m tasks, their cells. -/
def SrcK (w : World) (u : Value) (m : Nat) (ys : List Value) : Prop := ∃ p cap, u = .slice p m cap ∧ ys.length = m * 8 ∧ ∀ j y, ys[j]? = some y → ∃ b off, p = some ⟨b, off, none⟩ ∧ w.cell? ⟨b, off + j, none⟩ = some y
theorem run_append_tasks (w : World) (ty : TypeId) (base : Nat) (v : Value) (n : Nat) (xs : List Value) (hown : w.ownsRow base KT 8 v n xs) (u : Value) (m : Nat) (ys : List Value) (hu : SrcK w u m ys) (h1 : ∀ u ∈ ys, u.oneCell' = true) (hm : (n + m) * 80 ≤ 140737488355328) (hbase : base ≤ w.heap.size) :
    ∃ p cap w', (Builtin.append_ #[29, 29] ty #[v, u]).run Tryz.prog w = .ok (.slice p (n + m) cap) w' ∧ w'.ownsRow base KT 8 (.slice p (n + m) cap) (n + m) (xs ++ ys) ∧ w.grownBy w' v.ownBlock ∧
      (∀ g, (Value.slice p (n + m) cap).ownBlock = some g → v.ownBlock = some g ∨ w.heap.size ≤ g) := by
  obtain ⟨i0, hi, hz0, hz1, hz2⟩ := info_parts Tryz.infTk
  obtain ⟨p, cap, rfl, hl, hc⟩ := hu
  cases m with
  | zero =>
    obtain rfl : ys = [] := List.eq_nil_of_length_eq_zero (by omega)
    obtain ⟨p', cap', rfl, hle⟩ := own_small hown
    refine ⟨p', cap', w, ?_, by simpa using hown, ⟨rfl, rfl, rfl, Nat.le_refl _, fun _ _ _ => rfl⟩, fun g e => .inl e⟩
    refine run_append_nothing w 29 29 ty KT i0 Tryz.underlying29 hi p' n cap' hle _ ?_
    cases p with
    | none => exact Src.ofNil w Tryz.underlying29 cap
    | some a => exact Src.ofSlice w Tryz.underlying29 a 0 cap [] (by simp) (fun j u hj => by simp at hj) (fun u hu => by simp at hu)
  | succ m =>
    obtain ⟨y, hy⟩ : ∃ y, ys[0]? = some y := ⟨_, List.getElem?_eq_getElem (by omega)⟩
    obtain ⟨b, off, rfl, _⟩ := hc 0 y hy
    obtain ⟨g, cap', w', hr, ho, hg, hat, hlt⟩ := run_append_lies (P := Tryz.prog) (w := w) 29 ty base KT i0 (.agg #[.int .i64 0, .slice none 0 0, .int .i64 0, .int .i64 0, .int .i64 0, .int .i64 0, .int .i64 0, .int .i64 0]) 8 80 Tryz.underlying29 hi hz0 hz1 hz2 rfl (by decide) v n xs hown ⟨b, off, none⟩ (m + 1) cap ys hl
      (fun j u hj => by
        obtain ⟨b', off', e, hcell⟩ := hc j u hj
        cases e
        have hadd : (⟨b, off, none⟩ : Addr).add j = ⟨b, off + j, none⟩ := by unfold Addr.add; split <;> simp_all
        rw [hadd]; exact hcell) h1 (by omega) (by unfold maxLen; omega) (by omega) hbase _ rfl
    refine ⟨_, _, w', hr, ho, hg, fun g' e => ?_⟩
    simp [Value.ownBlock] at e
    subst e
    rcases hat with e | e
    · exact .inl e
    · exact .inr (by omega)
theorem wpList_append_tasks {w : World} {ops : Array Oper} {rest : List Oper} {o : Oper} {a : Act} {Q : Exit → Act → World → Prop} (hgd : o.guard = none) (s x : Operand)
    (ho : o.op = .call { callee := .builtin .append, args := #[s, x], argTypes := #[29, 29] })
    (base : Nat) (v : Value) (n : Nat) (xs : List Value) (hs : a.eval s = v) (hown : w.ownsRow base KT 8 v n xs) (u : Value) (m : Nat) (ys : List Value) (hx : a.eval x = u) (hu : SrcK w u m ys) (h1 : ∀ u ∈ ys, u.oneCell' = true) (hm : (n + m) * 80 ≤ 140737488355328) (hbase : base ≤ w.heap.size)
    (h : ∀ p cap w', w'.ownsRow base KT 8 (.slice p (n + m) cap) (n + m) (xs ++ ys) → w.grownBy w' v.ownBlock → (∀ g, (Value.slice p (n + m) cap).ownBlock = some g → v.ownBlock = some g ∨ w.heap.size ≤ g) → wpList Tryz.prog ops Q rest (a.put o.dst (.slice p (n + m) cap)) w') : wpList Tryz.prog ops Q (o :: rest) a w := by
  refine wpList_plain hgd fun K hK => ?_
  obtain ⟨p, cap, w', hr, h2, h3, h4⟩ := run_append_tasks w o.type base v n xs hown u m ys hu h1 hm hbase
  unfold Oper.wp execOp
  simp only [ho, resolve, invoke, builtin, Sem.run_bind, Sem.run_pure, Result.andThen_ok, List.map_toArray, List.map_cons, List.map_nil, hs, hx, hr]
  exact hK _ _ (h p cap w' h2 h3 h4)
/-- A slice that reads as tasks is such a source. -/
theorem src_tasks {w : World} {v : Value} {n : Nat} {T : Nat → Tk} (h : Tasks w v n T) : SrcK w v n (tkL T n) := by
  obtain ⟨p, cap, rfl, _, hc⟩ := h
  refine ⟨p, cap, rfl, tkL_len T n, fun j y hy => ?_⟩
  have hj : j < n * 8 := by have := (List.getElem?_eq_some_iff.1 hy).1; rwa [tkL_len] at this
  obtain ⟨b, off, e, c0, c1, c2, c3, c4, c5, c6, c7, _⟩ := hc (j / 8) (by omega)
  refine ⟨b, off, e, ?_⟩
  have hd : j = j / 8 * 8 + j % 8 := by omega
  rw [hd, tkL_at T (by omega) _ (by omega)] at hy
  cases hy
  have hr : j % 8 = 0 ∨ j % 8 = 1 ∨ j % 8 = 2 ∨ j % 8 = 3 ∨ j % 8 = 4 ∨ j % 8 = 5 ∨ j % 8 = 6 ∨ j % 8 = 7 := by omega
  generalize j / 8 = i at *
  rcases hr with r | r | r | r | r | r | r | r
  · rw [r] at hd ⊢; rw [hd]; exact c0
  · rw [r] at hd ⊢; rw [hd, ← Nat.add_assoc]; exact c1
  · rw [r] at hd ⊢; rw [hd, ← Nat.add_assoc]; exact c2
  · rw [r] at hd ⊢; rw [hd, ← Nat.add_assoc]; exact c3
  · rw [r] at hd ⊢; rw [hd, ← Nat.add_assoc]; exact c4
  · rw [r] at hd ⊢; rw [hd, ← Nat.add_assoc]; exact c5
  · rw [r] at hd ⊢; rw [hd, ← Nat.add_assoc]; exact c6
  · rw [r] at hd ⊢; rw [hd, ← Nat.add_assoc]; exact c7
/-- One task that lies in a block of its own. -/
theorem src_onet (w : World) (p : Int) (s : Value) (k : Ac) (t : TypeId) : SrcK (w.alloc (.cells #[.int .i64 p, s, .int .i64 k.g, .int .i64 k.o, .int .i64 k.n, .int .i64 k.d, .int .i64 k.c, .int .i64 k.t] t)) (.slice (some ⟨w.heap.size, 0, none⟩) 1 1) 1 [.int .i64 p, s, .int .i64 k.g, .int .i64 k.o, .int .i64 k.n, .int .i64 k.d, .int .i64 k.c, .int .i64 k.t] := by
  refine ⟨_, _, rfl, rfl, fun i y hy => ⟨w.heap.size, 0, rfl, ?_⟩⟩
  rw [Nat.zero_add, has_cell (has_new w (.cells #[.int .i64 p, s, .int .i64 k.g, .int .i64 k.o, .int .i64 k.n, .int .i64 k.d, .int .i64 k.c, .int .i64 k.t] t) _ rfl)]
  simpa using hy
theorem tkL_one {w : World} {v : Value} {n : Nat} {T : Nat → Tk} (h : Tasks w v n T) : ∀ u ∈ tkL T n, u.oneCell' = true := by
  intro u hu
  unfold tkL lst at hu
  obtain ⟨x, hx, rfl⟩ := List.mem_map.1 hu
  have hx' : x < n * 8 := List.mem_range.1 hx
  obtain ⟨_, _, _, _, hc⟩ := h
  obtain ⟨_, _, _, _, _, _, _, _, _, _, _, hJ⟩ := hc (x / 8) (by omega)
  obtain ⟨p, cap, e, _⟩ := hJ
  unfold prtT
  have hr : x % 8 = 0 ∨ x % 8 = 1 ∨ x % 8 = 2 ∨ x % 8 = 3 ∨ x % 8 = 4 ∨ x % 8 = 5 ∨ x % 8 = 6 ∨ x % 8 = 7 := by omega
  rcases hr with r | r | r | r | r | r | r | r <;> rw [r] <;> first | rfl | (simp only [Nat.one_ne_zero, if_false, if_true, e]; rfl)
end Go.Proofs.YthbkinopgialmaaGreatDoor
/- The document's own leaf as it lies in memory; put, handle, Task, All; no condition but those that each row names. -/
namespace Go.Proofs.YthbkinopgialmaaGreatDoor
open Go.RowKit Tsk

/-- A slice of tasks that lies, with their jobs, in none of the blocks X. -/
structure TasksX (X : Nat → Prop) (w : World) (v : Value) (m : Nat) (F : Nat → Tk) : Prop where
  tk : Tasks w v m F
  far : ∀ a n c, v = .slice (some a) n c → 0 < n → ¬ X a.block
  jx : ∀ j, j < m → JobsX X w (F j).s (F j).n (F j).f
theorem TasksX.keeps {X R : Nat → Prop} {w w' : World} {v : Value} {m : Nat} {F : Nat → Tk} (h : TasksX X w v m F) (hk : Keeps R w w') (hR : ∀ x, R x → X x) : TasksX X w' v m F := by
  refine ⟨?_, h.far, fun j hj => (h.jx j hj).keeps hk hR⟩
  obtain ⟨⟨p, cap, e, hm, hc⟩, hf, hj⟩ := h
  refine ⟨p, cap, e, hm, fun j hlt => ?_⟩
  obtain ⟨b, off, e2, c0, c1, c2, c3, c4, c5, c6, c7, hJ⟩ := hc j hlt
  have hl := cell_lt c0
  have hn : ¬ R b := fun r => hf ⟨b, off, none⟩ m cap (by rw [e, e2]) (by omega) (hR b r)
  have k := fun (o : Nat) => hk.cell (p := ⟨b, o, none⟩) hl hn
  exact ⟨b, off, e2, (k _).trans c0, (k _).trans c1, (k _).trans c2, (k _).trans c3, (k _).trans c4, (k _).trans c5, (k _).trans c6, (k _).trans c7, ((hj j hlt).keeps hk hR).1⟩
theorem TasksX.below {X : Nat → Prop} {w w' : World} {v : Value} {m : Nat} {F : Nat → Tk} (h : TasksX X w v m F) (hb : Below w.heap.size w w') : TasksX X w' v m F := ⟨h.tk.below hb, h.far, fun j hj => (h.jx j hj).below hb⟩
theorem TasksX.mono {X Y : Nat → Prop} {w : World} {v : Value} {m : Nat} {F : Nat → Tk} (h : TasksX X w v m F) (hy : ∀ x, x < w.heap.size → Y x → X x) : TasksX Y w v m F := by
  refine ⟨h.tk, fun a n c e h0 k => ?_, fun j hj => (h.jx j hj).mono hy⟩
  have ht := h.tk
  obtain ⟨p, cap, e1, _, hc⟩ := ht
  rw [e] at e1
  cases e1
  obtain ⟨b, off, e2, c0, _⟩ := hc 0 h0
  cases e2
  exact h.far _ _ _ e h0 (hy _ (cell_lt c0) k)
/-- The document's leaf in a world. -/
structure DL (X : Nat → Prop) (w : World) (A : Tab) (T : Nat → Tk) (gs ts ls ks : Value) : Prop where
  rt : RT X w A gs ts ls
  tk : ∃ sl, TasksX X w ks 8 (tm T sl)
theorem DL.keeps {X : Nat → Prop} {w w' : World} {A : Tab} {T : Nat → Tk} {gs ts ls ks : Value} (h : DL X w A T gs ts ls ks) (hk : Keeps X w w') : DL X w' A T gs ts ls ks := by
  obtain ⟨sl, hs⟩ := h.tk
  exact ⟨h.rt.keeps hk, sl, hs.keeps hk (fun _ k => k)⟩
theorem DL.below {X : Nat → Prop} {w w' : World} {A : Tab} {T : Nat → Tk} {gs ts ls ks : Value} (h : DL X w A T gs ts ls ks) (hb : Below w.heap.size w w') : DL X w' A T gs ts ls ks := h.keeps (Keeps.of_below hb)
abbrev lv (k : Int) (gs ts ls ks : Value) : Value := .agg #[.int .i64 k, gs, ts, ls, ks]
abbrev LT : TypeId := 31
/-- A leaf in a block of its own. -/
def HasL (W : World) (g : Nat) (k : Int) (gs ts ls ks : Value) : Prop := Has W g (.cells #[.int .i64 k, gs, ts, ls, ks] LT (0, 0))
theorem HasL.below {W W' : World} {g : Nat} {k : Int} {gs ts ls ks : Value} (h : HasL W g k gs ts ls ks) (hb : Below W.heap.size W W') : HasL W' g k gs ts ls ks := (hb.block g (has_lt h)).trans h
theorem HasL.cells {W : World} {g : Nat} {k : Int} {gs ts ls ks : Value} (h : HasL W g k gs ts ls ks) : W.cell? ⟨g, 0, none⟩ = some (.int .i64 k) ∧ W.cell? ⟨g, 1, none⟩ = some gs ∧ W.cell? ⟨g, 2, none⟩ = some ts ∧ W.cell? ⟨g, 3, none⟩ = some ls ∧ W.cell? ⟨g, 4, none⟩ = some ks :=
  ⟨(has_cell h 0).trans rfl, (has_cell h 1).trans rfl, (has_cell h 2).trans rfl, (has_cell h 3).trans rfl, (has_cell h 4).trans rfl⟩
theorem hasL_new (w : World) (k : Int) (gs ts ls ks : Value) : HasL (w.alloc (.cells #[.int .i64 k, gs, ts, ls, ks] LT)) w.heap.size k gs ts ls ks := has_new _ _ _ rfl
theorem below5 {B g : Nat} {w W : World} (h : Below B w W) (hg : B ≤ g) (v0 v1 v2 v3 v4 : Value) : Below B w (((((W.setCell ⟨g, 0, none⟩ v0).setCell ⟨g, 1, none⟩ v1).setCell ⟨g, 2, none⟩ v2).setCell ⟨g, 3, none⟩ v3).setCell ⟨g, 4, none⟩ v4) :=
  below_low (below_low (below_low (below_low (below_low h _ _ hg) _ _ hg) _ _ hg) _ _ hg) _ _ hg
theorem own_low5 {B e z n g : Nat} {w : World} {v : Value} {xs : List Value} (h : w.ownsRow B e z v n xs) (hg : g < B) (v0 v1 v2 v3 v4 : Value) : (((((w.setCell ⟨g, 0, none⟩ v0).setCell ⟨g, 1, none⟩ v1).setCell ⟨g, 2, none⟩ v2).setCell ⟨g, 3, none⟩ v3).setCell ⟨g, 4, none⟩ v4).ownsRow B e z v n xs :=
  own_low (own_low (own_low (own_low (own_low h _ _ hg) _ _ hg) _ _ hg) _ _ hg) _ _ hg
/-- The three slices of a table. -/
def IsSl3 (gs ts ls : Value) : Prop := ∃ p n c q n2 c2 r n3 c3, gs = .slice p n c ∧ ts = .slice q n2 c2 ∧ ls = .slice r n3 c3
theorem RT.sl3 {X : Nat → Prop} {w : World} {A : Tab} {gs ts ls : Value} (h : RT X w A gs ts ls) : IsSl3 gs ts ls := by
  obtain ⟨p, cp, q, cq, r, cr, e1, e2, e3⟩ := h.shapes
  exact ⟨p, _, cp, q, _, cq, r, _, cr, e1, e2, e3⟩
/-- What put answers: another task at a slot, in a row of its own. -/
def PutP (X : Nat → Prop) (w : World) (k : Int) (gs ts ls : Value) (F : Nat → Tk) (e : Ending) (w' : World) : Prop := ∃ ks, e = .returned (lv k gs ts ls ks) ∧ TasksX X w' ks 8 F ∧ Below w.heap.size w w'
set_option maxHeartbeats 4000000 in
set_option maxRecDepth 100000 in
theorem rput (X : Nat → Prop) (w : World) (hX : ∀ x, X x → x < w.heap.size) (K : Int) (gs ts ls ks : Value) (hsl : IsSl3 gs ts ls) (F : Nat → Tk) (h : TasksX X w ks 8 F) (i : Nat) (hi : i < 8) (p : Int) (s : Value) (n : Nat) (f : Nat → Jb) (k : Ac) (hj : JobsX X w s n f) :
    Calls Tryz.prog 50 #[lv K gs ts ls ks, .int .i64 i, tV p s k] w (PutP X w K gs ts ls (upd F i ⟨p, s, n, f, k⟩)) := by
  obtain ⟨p1, n1, c1, p2, n2, c2, p3, n3, c3, rfl, rfl, rfl⟩ := hsl
  obtain ⟨⟨q0, cq0, rfl, _⟩, _⟩ := id hj
  obtain ⟨pk, ck, rfl, _⟩ := id h.tk
  have HTX := Lib.hid h
  have HJX := Lib.hid hj
  obtain ⟨kg, ko, kn, kd, kc, kt⟩ := k
  obtain ⟨WA, hWA⟩ : ∃ WA, WA = ((w.alloc (.cells #[.int .i64 K, .slice p1 n1 c1, .slice p2 n2 c2, .slice p3 n3 c3, .slice pk 8 ck] LT)).alloc (.cells #[.int .i64 p, .slice q0 n cq0, .int .i64 kg, .int .i64 ko, .int .i64 kn, .int .i64 kd, .int .i64 kc, .int .i64 kt] KT)).alloc (.cells #[.int .i64 0, .slice none 0 0, .slice none 0 0, .slice none 0 0, .slice none 0 0] LT) := ⟨_, rfl⟩
  have HB := Lib.hid (show Below w.heap.size w WA from by rw [hWA]; exact (((Below.refl _ _).alloc (Nat.le_refl _) _).alloc (by simp) _).alloc (by simp; omega) _)
  have HT := Lib.hid (show HasL WA w.heap.size K (.slice p1 n1 c1) (.slice p2 n2 c2) (.slice p3 n3 c3) (.slice pk 8 ck) ∧ HasT WA (w.heap.size + 1) p (.slice q0 n cq0) ⟨kg, ko, kn, kd, kc, kt⟩ ∧ HasL WA (w.heap.size + 1 + 1) 0 (.slice none 0 0) (.slice none 0 0) (.slice none 0 0) (.slice none 0 0) ∧ WA.heap.size = w.heap.size + 3 from by
    rw [hWA]
    exact ⟨has_old (has_old (has_new w _ _ rfl) _) _, has_old (has_new _ _ _ (by simp)) _, has_new _ _ _ (by simp), by simp⟩)
  have HW := Lib.hid hWA
  have HXX := Lib.hid hX
  clear hWA h hj hX
  go_enter Tryz.func50, Tryz.ntmps50
  go_upto_region 1 with fail
  rw [← HW.out]
  obtain ⟨a0, a1, a2, a3, a4⟩ := HT.out.1.cells
  go_wp2_with (at_builtin; refine wpList_append_tasks rfl _ _ rfl (w.heap.size + 3) (.slice none 0 0) 0 [] rfl (World.ownsRow_nil _ _ _ _) _ 8 (tkL F 8) rfl (src_tasks (HTX.out.tk.below HB.out)) (tkL_one HTX.out.tk) (by omega) (by have := HT.out.2.2.2; omega) ?_)
  intro pn cn w3 ho3 hg3 ha3
  have hb3 : Below WA.heap.size WA w3 := below_of_grown hg3
  have HO3 := Lib.hid (show w3.ownsRow (w.heap.size + 3) KT 8 (.slice pn 8 cn) 8 (tkL F 8) from by
    try rw [Nat.zero_add] at ho3
    exact ho3)
  have HB3 := Lib.hid (bnext HB.out hb3)
  have HT3 := Lib.hid (show HasL w3 w.heap.size K (.slice p1 n1 c1) (.slice p2 n2 c2) (.slice p3 n3 c3) (.slice pk 8 ck) ∧ HasT w3 (w.heap.size + 1) p (.slice q0 n cq0) ⟨kg, ko, kn, kd, kc, kt⟩ ∧ HasL w3 (w.heap.size + 1 + 1) 0 (.slice none 0 0) (.slice none 0 0) (.slice none 0 0) (.slice none 0 0) from ⟨HT.out.1.below hb3, HT.out.2.1.below hb3, HT.out.2.2.1.below hb3⟩)
  clear a0 a1 a2 a3 a4 ho3 hg3 ha3 hb3
  obtain ⟨g, cap, eg, _, hgB, hgl⟩ := own_block2 HO3.out (by omega)
  cases eg
  obtain ⟨a0, a1, a2, a3, a4⟩ := HT3.out.1.cells
  obtain ⟨x0, x1, x2, x3, x4, x5, x6, x7⟩ := HT3.out.2.1.cells
  obtain ⟨y0, y1, y2, y3, y4⟩ := HT3.out.2.2.cells
  have fy := fun j => has_free HT3.out.2.2 j
  have q := fun (r : Nat) (hr : r < 8) => (World.ownsRow.cellAt HO3.out (i * 8 + r) (by omega)).trans (tkL_at F hi r hr)
  have u0 := q 0 (by omega)
  have u1 := q 1 (by omega)
  have u2 := q 2 (by omega)
  have u3 := q 3 (by omega)
  have u4 := q 4 (by omega)
  have u5 := q 5 (by omega)
  have u6 := q 6 (by omega)
  have u7 := q 7 (by omega)
  rw [Nat.add_zero] at u0
  have fr := fun j => World.ownsRow.frozenAt HO3.out j
  generalize prtT (F i) 0 = z0 at *
  generalize prtT (F i) 1 = z1 at *
  generalize prtT (F i) 2 = z2 at *
  generalize prtT (F i) 3 = z3 at *
  generalize prtT (F i) 4 = z4 at *
  generalize prtT (F i) 5 = z5 at *
  generalize prtT (F i) 6 = z6 at *
  generalize prtT (F i) 7 = z7 at *
  have l0 : (0 : Int) ≤ (i : Int) := by omega
  have l1 : (i : Int) < 8 := by omega
  have m0 : ¬ g = w.heap.size := by omega
  have m1 : ¬ w.heap.size = g := by omega
  have m2 : ¬ g = w.heap.size + 1 := by omega
  have m3 : ¬ w.heap.size + 1 = g := by omega
  have m4 : ¬ g = w.heap.size + 1 + 1 := by omega
  have m5 : ¬ w.heap.size + 1 + 1 = g := by omega
  have HGL := Lib.hid (show w.heap.size + 3 ≤ g from hgB)
  clear q hgB hgl
  go_wp2_with fail
  refine bodyPost_ret (v := lv K (.slice p1 n1 c1) (.slice p2 n2 c2) (.slice p3 n3 c3) (.slice (some ⟨g, 0, none⟩) 8 cn)) (by simp [results, Tryz.results50, go_sem, y0, y1, y2, y3, y4]) rfl ?_
  have hgl := HGL.out
  have hown := own_low5 (own_set8 HO3.out i ⟨p, .slice q0 n cq0, n, f, ⟨kg, ko, kn, kd, kc, kt⟩⟩) (g := w.heap.size + 1 + 1) (by omega) (.int .i64 K) (.slice p1 n1 c1) (.slice p2 n2 c2) (.slice p3 n3 c3) (.slice (some ⟨g, 0, none⟩) 8 cn)
  have hbel := below5 (below_set8 HB3.out (g := g) (by omega) i (.int .i64 p) (.slice q0 n cq0) (.int .i64 kg) (.int .i64 ko) (.int .i64 kn) (.int .i64 kd) (.int .i64 kc) (.int .i64 kt)) (g := w.heap.size + 1 + 1) (by omega) (.int .i64 K) (.slice p1 n1 c1) (.slice p2 n2 c2) (.slice p3 n3 c3) (.slice (some ⟨g, 0, none⟩) 8 cn)
  have hjx : ∀ W, Below w.heap.size w W → ∀ j, j < 8 → JobsX X W ((upd F i ⟨p, .slice q0 n cq0, n, f, ⟨kg, ko, kn, kd, kc, kt⟩⟩) j).s ((upd F i ⟨p, .slice q0 n cq0, n, f, ⟨kg, ko, kn, kd, kc, kt⟩⟩) j).n ((upd F i ⟨p, .slice q0 n cq0, n, f, ⟨kg, ko, kn, kd, kc, kt⟩⟩) j).f := fun W hW j hj => by
    by_cases e : j = i
    · subst e; rw [upd_same]; exact HJX.out.below hW
    · rw [upd_ne _ e]; exact (HTX.out.jx j hj).below hW
  exact ⟨_, rfl, ⟨own_tasks hown (by omega) fun j hj => (hjx _ hbel j hj).1, fun a n' c' e h0 k => by
    cases e
    have := HXX.out _ k
    simp only at this
    omega, hjx _ hbel⟩, hbel⟩
end Go.Proofs.YthbkinopgialmaaGreatDoor
/- The document's own leaf: handle, first, Ready, Task, All; no condition but those that each row names. -/
namespace Go.Proofs.YthbkinopgialmaaGreatDoor
open Go.RowKit Tsk

set_option maxHeartbeats 2000000 in
set_option maxRecDepth 100000 in
theorem rhandle (X : Nat → Prop) (A : Tab) (T : Nat → Tk) (hg : LGood A T) (gs ts ls ks : Value) (w : World) (h : DL X w A T gs ts ls ks) (i : Nat) (hi : A.t i = true) :
    Calls Tryz.prog 61 #[lv A.kind gs ts ls ks, .int .i64 i] w fun e w' => e = .returned (.int .i64 (A.hd i)) ∧ Below w.heap.size w w' := by
  have hil := t_len2 hg.tab hi
  have h8 := hg.len
  have hgi := hg.tab.gt i hil hi
  have HM := Lib.hid (fun W => rmk_ok 2 i (A.g i) W ⟨by omega, by omega, by omega, by omega, (hg.tab.g1 i hil).1, hgi⟩)
  have hh : A.hd i = mkH 2 i (A.g i) := by unfold Tab.hd; rw [hg.kind]
  rw [hh]
  obtain ⟨p, cp, q, cq, r, cr, rfl, rfl, rfl⟩ := h.rt.shapes
  obtain ⟨_, ⟨pk, ck, rfl, _⟩, _, _⟩ := h.tk
  obtain ⟨_, _, e, _, hc⟩ := h.rt.g
  obtain ⟨b, off, e2, _, hcell⟩ := hc i _ (ints_at hil)
  have e3 : p = some ⟨b, off, none⟩ := by
    simp only [Value.slice.injEq] at e
    rw [e.1]; exact e2
  subst e3
  have hcell' : w.cell? ⟨b, off + i, none⟩ = some (.int .i64 (A.g i)) := hcell
  have hbl : b < w.heap.size := cell_lt hcell
  have hk2 : A.kind = 2 := hg.kind
  generalize A.g i = gv at *
  generalize mkH 2 i gv = y at *
  rw [h8, hk2]
  have z0 : (0 : Int) ≤ (i : Int) := by omega
  have z1 : (i : Int) < 8 := by omega
  obtain ⟨WA, hWA⟩ : ∃ WA, WA = w.alloc (.cells #[.int .i64 2, .slice (some ⟨b, off, none⟩) 8 cp, .slice q A.taken.length cq, .slice r A.list.length cr, .slice pk 8 ck] LT) := ⟨_, rfl⟩
  have HB := Lib.hid (show Below w.heap.size w WA from by rw [hWA]; exact (Below.refl _ _).alloc (Nat.le_refl _) _)
  have HT := Lib.hid (show HasL WA w.heap.size 2 (.slice (some ⟨b, off, none⟩) 8 cp) (.slice q A.taken.length cq) (.slice r A.list.length cr) (.slice pk 8 ck) from by rw [hWA]; exact hasL_new _ _ _ _ _ _)
  have hc1 := (HB.out.cell (p := ⟨b, off + i, none⟩) hbl).trans hcell'
  have HW := Lib.hid hWA
  clear hWA h hg hh hi hil h8 hgi hc e e2 hcell hcell' hk2
  go_enter Tryz.func61, Tryz.ntmps61
  go_upto_region 1 with fail
  rw [← HW.out]
  obtain ⟨a0, a1, a2, a3, a4⟩ := HT.out.cells
  go_wp2_with fail
  refine (HM.out _).mono ?_
  rintro e w1 ⟨rfl, rfl⟩
  go_wp2_with fail
  go_ret
  exact ⟨rfl, HB.out⟩
set_option maxHeartbeats 8000000 in
set_option maxRecDepth 100000 in
theorem rfirst (X : Nat → Prop) (A : Tab) (T : Nat → Tk) (hg : LGood A T) (gs ts ls ks : Value) (w : World) (h : DL X w A T gs ts ls ks) :
    Calls Tryz.prog 59 #[lv A.kind gs ts ls ks] w fun e w' => e = .returned (.int .i64 (rdy A T)) ∧ Below w.heap.size w w' := by
  have h8 := hg.len
  have hlt := hg.tab.lt
  obtain ⟨p, cp, q, cq, r, cr, rfl, rfl, rfl⟩ := h.rt.shapes
  obtain ⟨sl, hTX⟩ := h.tk
  have HTX := Lib.hid hTX.tk
  obtain ⟨pk, ck, rfl, _, _⟩ := id hTX.tk
  have HTA := Lib.hid h.rt.t
  generalize hkk : A.kind = kk at *
  obtain ⟨WA, hWA⟩ : ∃ WA, WA = w.alloc (.cells #[.int .i64 kk, .slice p A.gens.length cp, .slice q A.taken.length cq, .slice r A.list.length cr, .slice pk 8 ck] LT) := ⟨_, rfl⟩
  have HB := Lib.hid (show Below w.heap.size w WA from by rw [hWA]; exact (Below.refl _ _).alloc (Nat.le_refl _) _)
  have HT := Lib.hid (show HasL WA w.heap.size kk (.slice p A.gens.length cp) (.slice q A.taken.length cq) (.slice r A.list.length cr) (.slice pk 8 ck) from by rw [hWA]; exact hasL_new _ _ _ _ _ _)
  have HW := Lib.hid hWA
  have HCT := Lib.hid (show ∀ W, Below w.heap.size w W → ∀ i, i < 8 → ∃ b off, q = some ⟨b, off, none⟩ ∧ W.cell? ⟨b, off + i, none⟩ = some (.bool (A.t i)) from fun W hb i hi => by
    obtain ⟨_, _, e, _, hc⟩ := HTA.out
    simp only [Value.slice.injEq] at e
    obtain ⟨b, off, e2, _, hcell⟩ := hc i _ (bools_at (by omega))
    exact ⟨b, off, by rw [e.1]; exact e2, (hb.cell (p := ⟨b, off + i, none⟩) (cell_lt hcell)).trans hcell⟩)
  have HL8 := Lib.hid (show A.taken.length = 8 by omega)
  rw [HL8.out] at HT
  have e8 : A.taken.length = 8 := HL8.out
  have HREL := Lib.hid (show ∀ i, fsS A.t T (i + 1) = if A.t i = true ∧ 0 < (T i).n ∧ (fsS A.t T i < 0 ∨ (T i).p < (T (fsS A.t T i).toNat).p) then (i : Int) else fsS A.t T i from fun i => rfl)
  clear hWA h hg h8 hlt hkk hTX
  rw [e8]
  clear e8
  go_enter Tryz.func59, Tryz.ntmps59
  go_upto_region 1 with fail
  rw [show ((w.alloc (.cells #[.int .i64 kk, .slice p A.gens.length cp, .slice q 8 cq, .slice r A.list.length cr, .slice pk 8 ck] LT))) = WA from by rw [HW.out, HL8.out]]
  obtain ⟨a0, a1, a2, a3, a4⟩ := HT.out.cells
  go_wp2_with fail
  go_loopw [3, 4] (fun bv iv wr => ∃ i : Nat, iv = .int .i64 i ∧ i ≤ 8 ∧ bv = .int .i64 (fsS A.t T i) ∧ Hid (Below WA.heap.size WA wr)) (fun _ iv _ => 8 - (intOf iv).toNat)
  case atStart => exact ⟨0, rfl, Nat.zero_le _, rfl, Lib.hid (Below.refl _ _)⟩
  case round =>
    clear a0 a1 a2 a3 a4
    obtain ⟨i, rfl, hi, rfl, HBX⟩ := hrel
    obtain ⟨a0, a1, a2, a3, a4⟩ := HasL.cells (HT.out.below HBX.out)
    have z0 : (0 : Int) ≤ (i : Int) := by omega
    by_cases hi8 : i < 8
    · have z1 : (i : Int) < 8 := by omega
      obtain ⟨bt, ot, rfl, ct⟩ := HCT.out _ (bnext HB.out HBX.out) i hi8
      obtain ⟨_, _, e, _, hc⟩ := HTX.out.below (bnext HB.out HBX.out)
      simp only [Value.slice.injEq] at e
      obtain ⟨bk, ok, e2, d0, d1, _, _, _, _, _, _, hJ⟩ := hc i hi8
      have e3 : pk = some ⟨bk, ok, none⟩ := by rw [e.1]; exact e2
      subst e3
      obtain ⟨s1, cs1, hs1, _⟩ := hJ
      have d1' : wr.cell? ⟨bk, ok + i * 8 + 1, none⟩ = some (.slice s1 (T i).n cs1) := by rw [d1]; exact congrArg some hs1
      have d0' : wr.cell? ⟨bk, ok + i * 8, none⟩ = some (.int .i64 (T i).p) := d0
      have HPB := Lib.hid (show ∀ j, j < 8 → wr.cell? ⟨bk, ok + j * 8, none⟩ = some (.int .i64 (T j).p) from fun j hj => by
        obtain ⟨bk', ok', e2', d0'', _⟩ := hc j hj
        rw [e2] at e2'
        cases e2'
        exact d0'')
      have HR := Lib.hid (HREL.out i)
      have hfl := fs_le A.t T i
      generalize fsS A.t T i = bst at *
      clear hc hs1 d0 d1 e e2 HCT
      generalize (T i).n = tn at *
      generalize hti : A.t i = tk at *
      cases tk with
      | false =>
        have HR2 := Lib.hid (HR.out.trans (if_neg (fun x => by cases x.1)))
        clear hti
        go_wp2_with fail
        go_quiet (fail)
        go_wp2_with fail
        go_roundw
        case rel => exact ⟨i + 1, by go_num, by omega, by rw [HR2.out], Lib.hid (by first | exact below_drewN HBX.out _ | exact below_drew HBX.out)⟩
        case measure => simp [intOf]; omega
      | true =>
        clear hti
        by_cases hn : 0 < tn
        · have g1 : decide (0 < tn) = true := decide_eq_true hn
          by_cases hb : bst < 0
          · have g2 : decide (bst < 0) = true := decide_eq_true hb
            have HR2 := Lib.hid (HR.out.trans (if_pos ⟨rfl, hn, .inl hb⟩))
            go_wp2_with fail
            go_quiet (fail)
            go_wp2_with fail
            go_roundw
            case rel => exact ⟨i + 1, by go_num, by omega, by rw [HR2.out], Lib.hid (by first | exact below_drewN HBX.out _ | exact below_drew HBX.out)⟩
            case measure => simp [intOf]; omega
          · have g2 : decide (bst < 0) = false := decide_eq_false hb
            obtain ⟨j, rfl⟩ : ∃ j : Nat, bst = j := ⟨bst.toNat, by omega⟩
            rw [Int.toNat_natCast] at HR
            have hj8 : j < 8 := by omega
            have dj := HPB.out j hj8
            have y0 : (0 : Int) ≤ (j : Int) := by omega
            have y1 : (j : Int) < 8 := by omega
            generalize (T i).p = pi' at *
            generalize (T j).p = pj' at *
            by_cases hp : pi' < pj'
            · have g3 : decide (pi' < pj') = true := decide_eq_true hp
              have HR2 := Lib.hid (HR.out.trans (if_pos ⟨rfl, hn, .inr hp⟩))
              go_wp2_with fail
              go_quiet (fail)
              go_wp2_with fail
              go_roundw
              case rel => exact ⟨i + 1, by go_num, by omega, by rw [HR2.out], Lib.hid (by first | exact below_drewN HBX.out _ | exact below_drew HBX.out)⟩
              case measure => simp [intOf]; omega
            · have g3 : decide (pi' < pj') = false := decide_eq_false hp
              have HR2 := Lib.hid (HR.out.trans (if_neg (fun x => x.2.2.elim hb hp)))
              go_wp2_with fail
              go_quiet (fail)
              go_wp2_with fail
              go_roundw
              case rel => exact ⟨i + 1, by go_num, by omega, by rw [HR2.out], Lib.hid (by first | exact below_drewN HBX.out _ | exact below_drew HBX.out)⟩
              case measure => simp [intOf]; omega
        · have g1 : decide (0 < tn) = false := decide_eq_false hn
          have HR2 := Lib.hid (HR.out.trans (if_neg (fun x => hn x.2.1)))
          go_wp2_with fail
          go_quiet (fail)
          go_wp2_with fail
          go_roundw
          case rel => exact ⟨i + 1, by go_num, by omega, by rw [HR2.out], Lib.hid (by first | exact below_drewN HBX.out _ | exact below_drew HBX.out)⟩
          case measure => simp [intOf]; omega
    · have hi8' : i = 8 := by omega
      subst hi8'
      have HBF := Lib.hid (bnext HB.out HBX.out)
      go_wp2_with fail
      go_ret
      exact ⟨rfl, HBF.out⟩
theorem sl5 {X : Nat → Prop} {w : World} {A : Tab} {T : Nat → Tk} {gs ts ls ks : Value} (h : DL X w A T gs ts ls ks) : IsSl3 gs ts ls ∧ ∃ pk ck, ks = .slice pk 8 ck := by
  obtain ⟨_, hTX⟩ := h.tk
  obtain ⟨pk, ck, e, _⟩ := hTX.tk
  exact ⟨h.rt.sl3, pk, ck, e⟩
set_option maxHeartbeats 2000000 in
set_option maxRecDepth 100000 in
theorem rready13 (X : Nat → Prop) (A : Tab) (T : Nat → Tk) (hg : LGood A T) (gs ts ls ks : Value) (w : World) (h : DL X w A T gs ts ls ks) :
    Calls Tryz.prog 31 #[lv A.kind gs ts ls ks] w fun e w' => e = .returned (.int .i64 (rdyH A T)) ∧ Below w.heap.size w w' := by
  have HF := Lib.hid (fun W (hb : Below w.heap.size w W) => rfirst X A T hg gs ts ls ks W (h.below hb))
  have HH := Lib.hid (fun W (hb : Below w.heap.size w W) i hi => rhandle X A T hg gs ts ls ks W (h.below hb) i hi)
  have HI := Lib.hid (fs_inv A.t T 8)
  have hk2 : A.kind = 2 := hg.kind
  rw [hk2] at HF HH ⊢
  obtain ⟨⟨p1, n1, c1, p2, n2, c2, p3, n3, c3, rfl, rfl, rfl⟩, pk, ck, rfl⟩ := sl5 h
  obtain ⟨WA, hWA⟩ : ∃ WA, WA = w.alloc (.cells #[.int .i64 2, .slice p1 n1 c1, .slice p2 n2 c2, .slice p3 n3 c3, .slice pk 8 ck] LT) := ⟨_, rfl⟩
  have HB := Lib.hid (show Below w.heap.size w WA from by rw [hWA]; exact (Below.refl _ _).alloc (Nat.le_refl _) _)
  have HT := Lib.hid (show HasL WA w.heap.size 2 (.slice p1 n1 c1) (.slice p2 n2 c2) (.slice p3 n3 c3) (.slice pk 8 ck) from by rw [hWA]; exact hasL_new _ _ _ _ _ _)
  have HW := Lib.hid hWA
  clear hWA h hg hk2
  go_enter Tryz.func31, Tryz.ntmps31
  go_upto_region 1 with fail
  rw [← HW.out]
  obtain ⟨a0, a1, a2, a3, a4⟩ := HT.out.cells
  go_wp2_with fail
  refine (HF.out _ HB.out).mono ?_
  rintro e w1 ⟨rfl, hb1⟩
  have HB1 := Lib.hid (bnext HB.out hb1)
  have HT1 := Lib.hid (HT.out.below hb1)
  clear a0 a1 a2 a3 a4 hb1
  obtain ⟨a0, a1, a2, a3, a4⟩ := HT1.out.cells
  by_cases hr : rdy A T < 0
  · have HE := Lib.hid (show rdyH A T = 0 by unfold rdyH; rw [if_pos hr])
    have g1 : decide (rdy A T < 0) = true := decide_eq_true hr
    clear hr
    go_wp2_with fail
    go_ret
    exact ⟨ret_int HE.out.symm, HB1.out⟩
  · have g1 : decide (rdy A T < 0) = false := decide_eq_false hr
    have HE := Lib.hid (show rdyH A T = A.hd (rdy A T).toNat by unfold rdyH; rw [if_neg hr])
    have hi := HI.out (by unfold rdy at hr; omega)
    have HHH := Lib.hid (HH.out w1 HB1.out (rdy A T).toNat hi.1)
    rw [show ((rdy A T).toNat : Int) = rdy A T from by omega] at HHH
    generalize A.hd (rdy A T).toNat = hx at *
    generalize rdy A T = r at *
    clear hr hi
    go_wp2_with fail
    refine HHH.out.mono ?_
    rintro e w2 ⟨rfl, hb2⟩
    have HB2 := Lib.hid (bnext HB1.out hb2)
    clear hb2
    go_wp2_with fail
    go_ret
    exact ⟨ret_int HE.out.symm, HB2.out⟩
/-- What the document's Task answers. -/
def TaskR13 (X : Nat → Prop) (w : World) (A : Tab) (T : Nat → Tk) (x : Int) (e : Ending) (w' : World) : Prop :=
  (A.find x = none → e = .returned (.tuple #[zT, .int .i64 20]) ∧ Below w.heap.size w w') ∧
  ∀ i, A.find x = some i → ∃ s, e = .returned (.tuple #[tV (T i).p s (T i).k, .int .i64 0]) ∧ JobsX X w' s (T i).n (T i).f ∧ Below w.heap.size w w'
set_option maxHeartbeats 2000000 in
set_option maxRecDepth 100000 in
theorem rtask_none (X : Nat → Prop) (A : Tab) (T : Nat → Tk) (hg : LGood A T) (gs ts ls ks : Value) (w : World) (h : DL X w A T gs ts ls ks) (x : Int) (hf : A.find x = none) :
    Calls Tryz.prog 26 #[lv A.kind gs ts ls ks, .int .i64 x] w fun e w' => e = .returned (.tuple #[zT, .int .i64 20]) ∧ Below w.heap.size w w' := by
  have HF := Lib.hid (fun W (hb : Below w.heap.size w W) => rfind_any X A hg.tab x gs ts ls W (h.rt.below hb))
  rw [hf, show optV none = -1 from rfl] at HF
  have hk2 : A.kind = 2 := hg.kind
  rw [hk2] at HF ⊢
  obtain ⟨⟨p1, n1, c1, p2, n2, c2, p3, n3, c3, rfl, rfl, rfl⟩, pk, ck, rfl⟩ := sl5 h
  obtain ⟨WA, hWA⟩ : ∃ WA, WA = (w.alloc (.cells #[.int .i64 2, .slice p1 n1 c1, .slice p2 n2 c2, .slice p3 n3 c3, .slice pk 8 ck] LT)).alloc (.cells #[.int .i64 0, .slice none 0 0, .int .i64 0, .int .i64 0, .int .i64 0, .int .i64 0, .int .i64 0, .int .i64 0] KT) := ⟨_, rfl⟩
  have HB := Lib.hid (show Below w.heap.size w WA from by rw [hWA]; exact ((Below.refl _ _).alloc (Nat.le_refl _) _).alloc (by simp) _)
  have HT := Lib.hid (show HasL WA w.heap.size 2 (.slice p1 n1 c1) (.slice p2 n2 c2) (.slice p3 n3 c3) (.slice pk 8 ck) ∧ HasT WA (w.heap.size + 1) 0 (.slice none 0 0) kZ from by rw [hWA]; exact ⟨has_old (has_new _ _ _ rfl) _, has_new _ _ _ (by simp)⟩)
  have HW := Lib.hid hWA
  clear hWA h hg hk2 hf
  go_enter Tryz.func26, Tryz.ntmps26
  go_upto_region 1 with fail
  rw [← HW.out]
  obtain ⟨a0, a1, a2, a3, a4⟩ := HT.out.1.cells
  go_wp2_with fail
  refine (HF.out _ HB.out).mono ?_
  rintro e w1 ⟨rfl, hb1⟩
  have HB1 := Lib.hid (bnext HB.out hb1)
  have HT1 := HT.out.2.below hb1
  obtain ⟨x0, x1, x2, x3, x4, x5, x6, x7⟩ := HT1.cells
  have fr := fun j => has_free HT1 j
  clear a0 a1 a2 a3 a4 hb1 HT1
  go_wp2_with fail
  refine bodyPost_ret (v := .tuple #[zT, .int .i64 20]) (by simp [results, Tryz.results26, go_sem, x0, x1, x2, x3, x4, x5, x6, x7]) rfl ⟨rfl, ?_⟩
  exact below8 HB1.out (by omega) _ _ _ _ _ _ _ _
set_option maxHeartbeats 2000000 in
set_option maxRecDepth 100000 in
theorem rtask_some (X : Nat → Prop) (A : Tab) (T : Nat → Tk) (hg : LGood A T) (gs ts ls ks : Value) (w : World) (h : DL X w A T gs ts ls ks) (x : Int) (i : Nat) (hf : A.find x = some i) :
    Calls Tryz.prog 26 #[lv A.kind gs ts ls ks, .int .i64 x] w fun e w' => ∃ s, e = .returned (.tuple #[tV (T i).p s (T i).k, .int .i64 0]) ∧ JobsX X w' s (T i).n (T i).f ∧ Below w.heap.size w w' := by
  have HF := Lib.hid (fun W (hb : Below w.heap.size w W) => rfind_any X A hg.tab x gs ts ls W (h.rt.below hb))
  rw [hf, show optV (some i) = (i : Int) from rfl] at HF
  have hi8 : i < 8 := by have h1 := (find_inv hf).1; have h2 := hg.len; omega
  have hk2 : A.kind = 2 := hg.kind
  rw [hk2] at HF ⊢
  obtain ⟨sl, hTX⟩ := h.tk
  obtain ⟨⟨p1, n1, c1, p2, n2, c2, p3, n3, c3, rfl, rfl, rfl⟩, pk, ck, rfl⟩ := sl5 h
  obtain ⟨_, _, e, _, hc⟩ := hTX.tk
  simp only [Value.slice.injEq] at e
  obtain ⟨bk, ok, e2, d0, d1, d2, d3, d4, d5, d6, d7, _⟩ := hc i hi8
  have e3 : pk = some ⟨bk, ok, none⟩ := by rw [e.1]; exact e2
  subst e3
  have HJ := Lib.hid (hTX.jx i hi8)
  obtain ⟨⟨q0, cq0, hq0, _⟩, _⟩ := hTX.jx i hi8
  have hbk : bk < w.heap.size := cell_lt d0
  obtain ⟨WA, hWA⟩ : ∃ WA, WA = (w.alloc (.cells #[.int .i64 2, .slice p1 n1 c1, .slice p2 n2 c2, .slice p3 n3 c3, .slice (some ⟨bk, ok, none⟩) 8 ck] LT)).alloc (.cells #[.int .i64 0, .slice none 0 0, .int .i64 0, .int .i64 0, .int .i64 0, .int .i64 0, .int .i64 0, .int .i64 0] KT) := ⟨_, rfl⟩
  have HB := Lib.hid (show Below w.heap.size w WA from by rw [hWA]; exact ((Below.refl _ _).alloc (Nat.le_refl _) _).alloc (by simp) _)
  have HT := Lib.hid (show HasL WA w.heap.size 2 (.slice p1 n1 c1) (.slice p2 n2 c2) (.slice p3 n3 c3) (.slice (some ⟨bk, ok, none⟩) 8 ck) ∧ HasT WA (w.heap.size + 1) 0 (.slice none 0 0) kZ from by rw [hWA]; exact ⟨has_old (has_new _ _ _ rfl) _, has_new _ _ _ (by simp)⟩)
  have HW := Lib.hid hWA
  dsimp only [tm] at d0 d1 d2 d3 d4 d5 d6 d7 hq0 HJ
  rw [hq0] at d1 HJ
  obtain ⟨t, hti⟩ : ∃ t, t = T i := ⟨_, rfl⟩
  rw [← hti] at d0 d1 d2 d3 d4 d5 d6 d7 HJ ⊢
  obtain ⟨tp, ts', tn, tf, ⟨kg, ko, kn, kd, kc, kt⟩⟩ := t
  dsimp only at d0 d1 d2 d3 d4 d5 d6 d7 HJ ⊢
  have HX := Lib.hid (fun W (hb : Below w.heap.size w W) => show _ ∧ _ ∧ _ ∧ _ ∧ _ ∧ _ ∧ _ ∧ _ from ⟨(hb.cell (p := ⟨bk, ok + i * 8, none⟩) hbk).trans d0, (hb.cell (p := ⟨bk, ok + i * 8 + 1, none⟩) hbk).trans d1, (hb.cell (p := ⟨bk, ok + i * 8 + 2, none⟩) hbk).trans d2, (hb.cell (p := ⟨bk, ok + i * 8 + 3, none⟩) hbk).trans d3, (hb.cell (p := ⟨bk, ok + i * 8 + 4, none⟩) hbk).trans d4, (hb.cell (p := ⟨bk, ok + i * 8 + 5, none⟩) hbk).trans d5, (hb.cell (p := ⟨bk, ok + i * 8 + 6, none⟩) hbk).trans d6, (hb.cell (p := ⟨bk, ok + i * 8 + 7, none⟩) hbk).trans d7⟩)
  have z0 : (0 : Int) ≤ (i : Int) := by omega
  have z1 : (i : Int) < 8 := by omega
  have HBK := Lib.hid hbk
  clear hWA h hg hk2 hf hTX hc e e2 hq0 hti d0 d1 d2 d3 d4 d5 d6 d7
  go_enter Tryz.func26, Tryz.ntmps26
  go_upto_region 1 with fail
  rw [← HW.out]
  obtain ⟨a0, a1, a2, a3, a4⟩ := HT.out.1.cells
  go_wp2_with fail
  refine (HF.out _ HB.out).mono ?_
  rintro e w1 ⟨rfl, hb1⟩
  have HB1 := Lib.hid (bnext HB.out hb1)
  clear a0 a1 a2 a3 a4
  have HT1 := HT.out.2.below hb1
  obtain ⟨x0, x1, x2, x3, x4, x5, x6, x7⟩ := HT1.cells
  have fr := fun j => has_free HT1 j
  obtain ⟨a0, a1, a2, a3, a4⟩ := (HT.out.1.below hb1).cells
  obtain ⟨d0, d1, d2, d3, d4, d5, d6, d7⟩ := HX.out w1 HB1.out
  clear hb1 HT1
  go_wp2_with fail
  have hbel := below8 HB1.out (g := w.heap.size + 1) (by omega) (.int .i64 tp) (.slice q0 tn cq0) (.int .i64 kg) (.int .i64 ko) (.int .i64 kn) (.int .i64 kd) (.int .i64 kc) (.int .i64 kt)
  refine bodyPost_ret (v := .tuple #[tV tp (.slice q0 tn cq0) ⟨kg, ko, kn, kd, kc, kt⟩, .int .i64 0]) (by simp [results, Tryz.results26, go_sem, x0, x1, x2, x3, x4, x5, x6, x7]) rfl ⟨_, rfl, HJ.out.below hbel, hbel⟩
theorem rtask (X : Nat → Prop) (A : Tab) (T : Nat → Tk) (hg : LGood A T) (gs ts ls ks : Value) (w : World) (h : DL X w A T gs ts ls ks) (x : Int) :
    Calls Tryz.prog 26 #[lv A.kind gs ts ls ks, .int .i64 x] w (TaskR13 X w A T x) := by
  cases hf : A.find x with
  | none => exact (rtask_none X A T hg gs ts ls ks w h x hf).mono fun e w' hh => ⟨fun _ => hh, fun i hi => by rw [hf] at hi; cases hi⟩
  | some i => exact (rtask_some X A T hg gs ts ls ks w h x i hf).mono fun e w' hh => ⟨fun hi => (by rw [hf] at hi; cases hi), fun j hj => by rw [hf] at hj; cases hj; exact hh⟩
set_option maxHeartbeats 2000000 in
set_option maxRecDepth 100000 in
theorem rall13 (X : Nat → Prop) (A : Tab) (T : Nat → Tk) (hg : LGood A T) (gs ts ls ks : Value) (w : World) (h : DL X w A T gs ts ls ks) (hX : ∀ x, X x → x < w.heap.size) :
    Calls Tryz.prog 29 #[lv A.kind gs ts ls ks] w (AllPost X w A) := by
  have HF := Lib.hid (fun W (hb : Below w.heap.size w W) => rall_any X A hg.tab gs ts ls W (h.rt.below hb) (fun x hx => Nat.lt_of_lt_of_le (hX x hx) hb.size))
  have hk2 : A.kind = 2 := hg.kind
  rw [hk2] at HF ⊢
  obtain ⟨⟨p1, n1, c1, p2, n2, c2, p3, n3, c3, rfl, rfl, rfl⟩, pk, ck, rfl⟩ := sl5 h
  obtain ⟨WA, hWA⟩ : ∃ WA, WA = w.alloc (.cells #[.int .i64 2, .slice p1 n1 c1, .slice p2 n2 c2, .slice p3 n3 c3, .slice pk 8 ck] LT) := ⟨_, rfl⟩
  have HB := Lib.hid (show Below w.heap.size w WA from by rw [hWA]; exact (Below.refl _ _).alloc (Nat.le_refl _) _)
  have HT := Lib.hid (show HasL WA w.heap.size 2 (.slice p1 n1 c1) (.slice p2 n2 c2) (.slice p3 n3 c3) (.slice pk 8 ck) from by rw [hWA]; exact hasL_new _ _ _ _ _ _)
  have HW := Lib.hid hWA
  clear hWA h hg hk2 hX
  go_enter Tryz.func29, Tryz.ntmps29
  go_upto_region 1 with fail
  rw [← HW.out]
  obtain ⟨a0, a1, a2, a3, a4⟩ := HT.out.cells
  go_wp2_with fail
  refine (HF.out _ HB.out).mono ?_
  rintro e w1 ⟨r, rfl, hl, hb1⟩
  have HL := Lib.hid hl
  have HB1 := Lib.hid (bnext HB.out hb1)
  clear hl hb1 a0 a1 a2 a3 a4
  go_wp2_with fail
  go_ret
  exact ⟨_, rfl, HL.out, HB1.out⟩
end Go.Proofs.YthbkinopgialmaaGreatDoor
/- The document's own leaf: Add; no condition but those that each row names. -/
namespace Go.Proofs.YthbkinopgialmaaGreatDoor
open Go.RowKit Tsk

theorem DL.mono {X Y : Nat → Prop} {w : World} {A : Tab} {T : Nat → Tk} {gs ts ls ks : Value} (h : DL X w A T gs ts ls ks) (hy : ∀ x, x < w.heap.size → Y x → X x) : DL Y w A T gs ts ls ks := by
  obtain ⟨sl, hs⟩ := h.tk
  exact ⟨h.rt.mono hy, sl, hs.mono hy⟩
theorem arr5_4 (u0 u1 u2 u3 u4 v0 v1 v2 v3 : Value) : (((#[u0, u1, u2, u3, u4].setIfInBounds 0 v0).setIfInBounds 1 v1).setIfInBounds 2 v2).setIfInBounds 3 v3 = #[v0, v1, v2, v3, u4] := by
  rw [← Array.toList_inj, Array.toList_setIfInBounds, Array.toList_setIfInBounds, Array.toList_setIfInBounds, Array.toList_setIfInBounds]; rfl
theorem HasL.set4 {W : World} {g : Nat} {k k' : Int} {gs ts ls ks gs' ts' ls' : Value} (h : HasL W g k gs ts ls ks) : HasL ((((W.setCell ⟨g, 0, none⟩ (.int .i64 k')).setCell ⟨g, 1, none⟩ gs').setCell ⟨g, 2, none⟩ ts').setCell ⟨g, 3, none⟩ ls') g k' gs' ts' ls' ks := by
  have a := has_set (has_set (has_set (has_set h 0 (.int .i64 k')) 1 gs') 2 ts') 3 ls'
  rwa [arr5_4] at a
theorem has_other4 {W : World} {g b : Nat} {o : Obj} (h : Has W g o) (hb : b ≠ g) (v0 v1 v2 v3 : Value) : Has ((((W.setCell ⟨b, 0, none⟩ v0).setCell ⟨b, 1, none⟩ v1).setCell ⟨b, 2, none⟩ v2).setCell ⟨b, 3, none⟩ v3) g o :=
  has_other (has_other (has_other (has_other h _ _ hb) _ _ hb) _ _ hb) _ _ hb
theorem below4 {B g : Nat} {w W : World} (h : Below B w W) (hg : B ≤ g) (v0 v1 v2 v3 : Value) : Below B w ((((W.setCell ⟨g, 0, none⟩ v0).setCell ⟨g, 1, none⟩ v1).setCell ⟨g, 2, none⟩ v2).setCell ⟨g, 3, none⟩ v3) :=
  below_low (below_low (below_low (below_low h _ _ hg) _ _ hg) _ _ hg) _ _ hg
theorem keeps4 {R : Nat → Prop} {g : Nat} {w W : World} (h : Keeps R w W) (hg : R g) (v0 v1 v2 v3 : Value) : Keeps R w ((((W.setCell ⟨g, 0, none⟩ v0).setCell ⟨g, 1, none⟩ v1).setCell ⟨g, 2, none⟩ v2).setCell ⟨g, 3, none⟩ v3) :=
  (((h.setS _ _ hg).setS _ _ hg).setS _ _ hg).setS _ _ hg
theorem keeps5 {R : Nat → Prop} {g : Nat} {w W : World} (h : Keeps R w W) (hg : R g) (v0 v1 v2 v3 v4 : Value) : Keeps R w (((((W.setCell ⟨g, 0, none⟩ v0).setCell ⟨g, 1, none⟩ v1).setCell ⟨g, 2, none⟩ v2).setCell ⟨g, 3, none⟩ v3).setCell ⟨g, 4, none⟩ v4) :=
  ((((h.setS _ _ hg).setS _ _ hg).setS _ _ hg).setS _ _ hg).setS _ _ hg
abbrev TT3 : TypeId := 28
/-- A table in a block of its own. -/
def HasS (W : World) (g : Nat) (k : Int) (gs ts ls : Value) : Prop := Has W g (.cells #[.int .i64 k, gs, ts, ls] TT3 (0, 0))
theorem HasS.below {W W' : World} {g : Nat} {k : Int} {gs ts ls : Value} (h : HasS W g k gs ts ls) (hb : Below W.heap.size W W') : HasS W' g k gs ts ls := (hb.block g (has_lt h)).trans h
theorem HasS.cells {W : World} {g : Nat} {k : Int} {gs ts ls : Value} (h : HasS W g k gs ts ls) : W.cell? ⟨g, 0, none⟩ = some (.int .i64 k) ∧ W.cell? ⟨g, 1, none⟩ = some gs ∧ W.cell? ⟨g, 2, none⟩ = some ts ∧ W.cell? ⟨g, 3, none⟩ = some ls :=
  ⟨(has_cell h 0).trans rfl, (has_cell h 1).trans rfl, (has_cell h 2).trans rfl, (has_cell h 3).trans rfl⟩
/-- What Add answers. -/
def AddR (X : Nat → Prop) (w : World) (A' : Tab) (T' : Nat → Tk) (h n : Int) (e : Ending) (w' : World) : Prop := ∃ gs ts ls ks, e = .returned (.tuple #[lv 2 gs ts ls ks, .int .i64 h, .int .i64 n]) ∧ DL X w' A' T' gs ts ls ks ∧ Below w.heap.size w w'
set_option maxHeartbeats 4000000 in
set_option maxRecDepth 100000 in
theorem radd_no13 (X : Nat → Prop) (A : Tab) (T : Nat → Tk) (gs ts ls ks : Value) (w : World) (h : DL X w A T gs ts ls ks) (p : Int) (hp : ¬ (0 ≤ p ∧ p ≤ 31)) :
    Calls Tryz.prog 18 #[lv 2 gs ts ls ks, .int .i64 p] w (AddR X w A T 0 2) := by
  have HN := Lib.hid (fun W => rnew_no p W hp)
  have HDL := Lib.hid h
  obtain ⟨⟨p1, n1, c1, p2, n2, c2, p3, n3, c3, rfl, rfl, rfl⟩, pk, ck, rfl⟩ := sl5 h
  obtain ⟨WA, hWA⟩ : ∃ WA, WA = (w.alloc (.cells #[.int .i64 2, .slice p1 n1 c1, .slice p2 n2 c2, .slice p3 n3 c3, .slice pk 8 ck] LT)).alloc (.cells #[.int .i64 0, .slice none 0 0, .slice none 0 0, .slice none 0 0, .slice none 0 0] LT) := ⟨_, rfl⟩
  have HB := Lib.hid (show Below w.heap.size w WA from by rw [hWA]; exact ((Below.refl _ _).alloc (Nat.le_refl _) _).alloc (by simp) _)
  have HT := Lib.hid (show HasL WA w.heap.size 2 (.slice p1 n1 c1) (.slice p2 n2 c2) (.slice p3 n3 c3) (.slice pk 8 ck) ∧ HasL WA (w.heap.size + 1) 0 (.slice none 0 0) (.slice none 0 0) (.slice none 0 0) (.slice none 0 0) from by rw [hWA]; exact ⟨has_old (has_new _ _ _ rfl) _, has_new _ _ _ (by simp)⟩)
  have HW := Lib.hid hWA
  clear hWA h hp
  go_enter Tryz.func18, Tryz.ntmps18
  go_upto_region 1 with fail
  rw [← HW.out]
  go_wp2_with fail
  refine (HN.out _).mono ?_
  rintro e w1 ⟨rfl, hb1⟩
  have HB1 := Lib.hid (bnext HB.out hb1)
  have HT1 := Lib.hid (HT.out.1.below hb1)
  have HT2 := HT.out.2.below hb1
  obtain ⟨a0, a1, a2, a3, a4⟩ := HT1.out.cells
  obtain ⟨y0, y1, y2, y3, y4⟩ := HT2.cells
  have fr := fun j => has_free HT2 j
  have hl := has_lt HT2
  have HL := Lib.hid (show w.heap.size + 1 < w1.heap.size from hl)
  have hl0 : w.heap.size < w1.heap.size := by omega
  clear hb1 HT2
  go_wp2_with fail
  refine bodyPost_ret (v := .tuple #[lv 2 (.slice p1 n1 c1) (.slice p2 n2 c2) (.slice p3 n3 c3) (.slice pk 8 ck), .int .i64 0, .int .i64 2]) (by simp [results, Tryz.results18, go_sem, y0, y1, y2, y3, y4, hl]) rfl ?_
  have hbel : Below w.heap.size w ((((((w1.setCell ⟨w.heap.size + 1, 0, none⟩ (.int .i64 2)).setCell ⟨w.heap.size + 1, 1, none⟩ (.slice p1 n1 c1)).setCell ⟨w.heap.size + 1, 2, none⟩ (.slice p2 n2 c2)).setCell ⟨w.heap.size + 1, 3, none⟩ (.slice p3 n3 c3)).setCell ⟨w.heap.size + 1, 4, none⟩ (.slice pk 8 ck)).alloc (.cells #[.int .i64 0, .slice none 0 0, .int .i64 0, .int .i64 0, .int .i64 0, .int .i64 0, .int .i64 0, .int .i64 0] KT)) :=
    (below5 HB1.out (by omega) _ _ _ _ _).alloc (by have := HL.out; simp [World.setCell]; omega) _
  exact ⟨_, _, _, _, rfl, HDL.out.below hbel, hbel⟩
set_option maxHeartbeats 4000000 in
set_option maxRecDepth 100000 in
theorem radd_some13 (X : Nat → Prop) (A : Tab) (T : Nat → Tk) (hg : LGood A T) (gs ts ls ks : Value) (w : World) (h : DL X w A T gs ts ls ks) (hX : ∀ x, X x → x < w.heap.size) (p : Int) (hp : 0 ≤ p ∧ p ≤ 31) (i : Nat) (hf : A.free = some i) :
    Calls Tryz.prog 18 #[lv 2 gs ts ls ks, .int .i64 p] w (AddR X w (A.addAt i 0) (upd T i (tkN p)) (A.hd i) 0) := by
  have HN := Lib.hid (fun W => rnew_ok p W hp)
  obtain ⟨X2, hX2⟩ : ∃ X2 : Nat → Prop, X2 = fun x => X x ∨ x = w.heap.size ∨ x = w.heap.size + 1 := ⟨_, rfl⟩
  have hD2 : DL X2 w A T gs ts ls ks := h.mono (fun x hx hy => by rw [hX2] at hy; rcases hy with hy | hy | hy; exact hy; omega; omega)
  have HX2 := Lib.hid (show ∀ x, X2 x → x < w.heap.size + 2 from fun x hx => by rw [hX2] at hx; rcases hx with hx | hx | hx; have := hX x hx; omega; omega; omega)
  have HX2b := Lib.hid (show (∀ x, X x → X2 x) ∧ X2 w.heap.size ∧ X2 (w.heap.size + 1) from by rw [hX2]; exact ⟨fun x hx => .inl hx, .inr (.inl rfl), .inr (.inr rfl)⟩)
  have hk2 : A.kind = 2 := hg.kind
  have HAD := Lib.hid (fun W (hb : Below w.heap.size w W) (hs : w.heap.size + 2 ≤ W.heap.size) => radd_some X2 A hg.tab 0 i hf gs ts ls W (hD2.rt.below hb) (fun x hx => Nat.lt_of_lt_of_le (HX2.out x hx) hs))
  rw [hk2] at HAD
  have hGA := hg.add hf (tkN_ok hp)
  obtain ⟨hi, _, _⟩ := fr_iff hf
  have hi8 : i < 8 := by have := hg.len; omega
  have hti : (A.addAt i 0).t i = true := by rw [add_t hg.tab hi, if_pos rfl]
  have hfd : (A.addAt i 0).find (A.hd i) = some i := find_hd hGA.tab hi hti
  have HFI := Lib.hid (fun W gs ts ls (hr : RT X2 W (A.addAt i 0) gs ts ls) => rfind_any X2 (A.addAt i 0) hGA.tab (A.hd i) gs ts ls W hr)
  rw [hfd, show optV (some i) = (i : Int) from rfl, hGA.kind] at HFI
  obtain ⟨sl, hTX⟩ := hD2.tk
  have HPU := Lib.hid (fun W (hb : Below w.heap.size w W) (hs : w.heap.size + 2 ≤ W.heap.size) gs ts ls (h3 : IsSl3 gs ts ls) => rput X2 W (fun x hx => Nat.lt_of_lt_of_le (HX2.out x hx) hs) 2 gs ts ls ks h3 (tm T sl) (hTX.below hb) i hi8 p (.slice none 0 0) 0 (fun _ => ⟨0, 0, 0, 0⟩) kZ (JobsX.nil _ _ _))
  have HTM := Lib.hid (tm_upd T sl i p (.slice none 0 0) 0 (fun _ => ⟨0, 0, 0, 0⟩) kZ (.slice none 0 0))
  obtain ⟨⟨p1, n1, c1, p2, n2, c2, p3, n3, c3, rfl, rfl, rfl⟩, pk, ck, rfl⟩ := sl5 h
  generalize A.hd i = hx at *
  obtain ⟨WA, hWA⟩ : ∃ WA, WA = (w.alloc (.cells #[.int .i64 2, .slice p1 n1 c1, .slice p2 n2 c2, .slice p3 n3 c3, .slice pk 8 ck] LT)).alloc (.cells #[.int .i64 0, .slice none 0 0, .slice none 0 0, .slice none 0 0, .slice none 0 0] LT) := ⟨_, rfl⟩
  have HB := Lib.hid (show Below w.heap.size w WA ∧ WA.heap.size = w.heap.size + 2 from by rw [hWA]; exact ⟨((Below.refl _ _).alloc (Nat.le_refl _) _).alloc (by simp) _, by simp⟩)
  have HT := Lib.hid (show HasL WA w.heap.size 2 (.slice p1 n1 c1) (.slice p2 n2 c2) (.slice p3 n3 c3) (.slice pk 8 ck) ∧ HasL WA (w.heap.size + 1) 0 (.slice none 0 0) (.slice none 0 0) (.slice none 0 0) (.slice none 0 0) from by rw [hWA]; exact ⟨has_old (has_new _ _ _ rfl) _, has_new _ _ _ (by simp)⟩)
  have HW := Lib.hid hWA
  clear hWA h hp hg hX2 hX hD2 hk2 hGA hi hti hfd hTX hf
  go_enter Tryz.func18, Tryz.ntmps18
  go_upto_region 1 with fail
  rw [← HW.out]
  go_wp2_with fail
  refine (HN.out _).mono ?_
  rintro e w1 ⟨rfl, hb1⟩
  obtain ⟨W1, hW1⟩ : ∃ W1, W1 = w1.alloc (.cells #[.int .i64 p, .slice none 0 0, .int .i64 0, .int .i64 0, .int .i64 0, .int .i64 0, .int .i64 0, .int .i64 0] KT) := ⟨_, rfl⟩
  have hs1 := hb1.size
  have HB1 := Lib.hid (show Below w.heap.size w W1 ∧ w.heap.size + 2 ≤ w1.heap.size ∧ W1.heap.size = w1.heap.size + 1 from by
    have h1 := bnext HB.out.1 hb1
    have h2 := HB.out.2
    rw [hW1]
    exact ⟨h1.alloc h1.size _, by omega, by simp⟩)
  have HK1 := Lib.hid (show HasL W1 w.heap.size 2 (.slice p1 n1 c1) (.slice p2 n2 c2) (.slice p3 n3 c3) (.slice pk 8 ck) ∧ HasL W1 (w.heap.size + 1) 0 (.slice none 0 0) (.slice none 0 0) (.slice none 0 0) (.slice none 0 0) ∧ HasT W1 w1.heap.size p (.slice none 0 0) kZ from by
    rw [hW1]; exact ⟨has_old (HT.out.1.below hb1) _, has_old (HT.out.2.below hb1) _, hasT_new w1 p _ kZ⟩)
  have HW1 := Lib.hid hW1
  clear hW1 hb1 hs1
  go_upto_region 4 with fail
  rw [← HW1.out]
  obtain ⟨a0, a1, a2, a3, a4⟩ := HK1.out.1.cells
  go_wp2_with fail
  refine (HAD.out W1 HB1.out.1 (by have := HB1.out; omega)).mono ?_
  rintro e w2 ⟨gs2, ts2, ls2, rfl, hrt2, hb2⟩
  obtain ⟨W2, hW2⟩ : ∃ W2, W2 = w2.alloc (.cells #[.int .i64 2, gs2, ts2, ls2] TT3) := ⟨_, rfl⟩
  have hs2 := hb2.size
  have HB2 := Lib.hid (show Below w.heap.size w W2 ∧ w1.heap.size + 1 ≤ w2.heap.size ∧ W2.heap.size = w2.heap.size + 1 from by
    have h1 := bnext HB1.out.1 hb2
    have h2 := HB1.out.2.2
    rw [hW2]
    exact ⟨h1.alloc h1.size _, by omega, by simp⟩)
  have HK2 := Lib.hid (show HasL W2 w.heap.size 2 (.slice p1 n1 c1) (.slice p2 n2 c2) (.slice p3 n3 c3) (.slice pk 8 ck) ∧ HasL W2 (w.heap.size + 1) 0 (.slice none 0 0) (.slice none 0 0) (.slice none 0 0) (.slice none 0 0) ∧ HasT W2 w1.heap.size p (.slice none 0 0) kZ ∧ HasS W2 w2.heap.size 2 gs2 ts2 ls2 from by
    rw [hW2]; exact ⟨has_old (HK1.out.1.below hb2) _, has_old (HK1.out.2.1.below hb2) _, has_old (HK1.out.2.2.below hb2) _, has_new _ _ _ rfl⟩)
  have HR2 := Lib.hid (show RT X2 W2 (A.addAt i 0) gs2 ts2 ls2 from by rw [hW2]; exact hrt2.below ((Below.refl _ _).alloc (Nat.le_refl _) _))
  have HS2 := Lib.hid hrt2.sl3
  have HW2 := Lib.hid hW2
  obtain ⟨q1, m1, d1, q2, m2, d2, q3, m3, d3, rfl, rfl, rfl⟩ := hrt2.sl3
  clear hW2 hb2 hs2 hrt2 a0 a1 a2 a3 a4
  go_upto_region 7 with fail
  rw [← HW2.out]
  obtain ⟨a0, a1, a2, a3, a4⟩ := HK2.out.1.cells
  obtain ⟨s0, s1, s2, s3⟩ := HK2.out.2.2.2.cells
  have fa := fun j => has_free HK2.out.1 j
  go_upto_region 8 with fail
  obtain ⟨W3, hW3⟩ : ∃ W3, W3 = (((W2.setCell ⟨w.heap.size, 0, none⟩ (.int .i64 2)).setCell ⟨w.heap.size, 1, none⟩ (.slice q1 m1 d1)).setCell ⟨w.heap.size, 2, none⟩ (.slice q2 m2 d2)).setCell ⟨w.heap.size, 3, none⟩ (.slice q3 m3 d3) := ⟨_, rfl⟩
  rw [← hW3]
  have HZ := Lib.hid (show w.heap.size + 2 ≤ w1.heap.size ∧ w1.heap.size + 1 ≤ w2.heap.size ∧ W2.heap.size = w2.heap.size + 1 from ⟨HB1.out.2.1, HB2.out.2.1, HB2.out.2.2⟩)
  have HB3 := Lib.hid (show Below w.heap.size w W3 ∧ W3.heap.size = W2.heap.size from by rw [hW3]; exact ⟨below4 HB2.out.1 (Nat.le_refl _) _ _ _ _, by simp [World.setCell]⟩)
  have HK3 := Lib.hid (show HasL W3 w.heap.size 2 (.slice q1 m1 d1) (.slice q2 m2 d2) (.slice q3 m3 d3) (.slice pk 8 ck) ∧ HasL W3 (w.heap.size + 1) 0 (.slice none 0 0) (.slice none 0 0) (.slice none 0 0) (.slice none 0 0) ∧ HasT W3 w1.heap.size p (.slice none 0 0) kZ ∧ HasS W3 w2.heap.size 2 (.slice q1 m1 d1) (.slice q2 m2 d2) (.slice q3 m3 d3) from by
    have hz := HZ.out
    rw [hW3]
    exact ⟨HasL.set4 HK2.out.1, has_other4 HK2.out.2.1 (by omega) _ _ _ _, has_other4 HK2.out.2.2.1 (by omega) _ _ _ _, has_other4 HK2.out.2.2.2 (by omega) _ _ _ _⟩)
  have HR3 := Lib.hid (show RT X2 W3 (A.addAt i 0) (.slice q1 m1 d1) (.slice q2 m2 d2) (.slice q3 m3 d3) from by rw [hW3]; exact HR2.out.keeps (keeps4 (Keeps.refl X2 W2) HX2b.out.2.1 _ _ _ _))
  have HD := Lib.hid (fun W (hb : Below W3.heap.size W3 W) => show _ ∧ _ ∧ _ ∧ _ ∧ ∀ j, W.frozen? ⟨w.heap.size + 1, j, none⟩ = false from ⟨HasL.cells (HK3.out.1.below hb), HasL.cells (HK3.out.2.1.below hb), HasT.cells (HK3.out.2.2.1.below hb), HasS.cells (HK3.out.2.2.2.below hb), fun j => has_free (HK3.out.2.1.below hb) j⟩)
  have HFI2 := Lib.hid (fun W (hb : Below W3.heap.size W3 W) => HFI.out W _ _ _ (HR3.out.below hb))
  have HPU2 := Lib.hid (fun W (hb : Below W3.heap.size W3 W) => HPU.out W (bnext HB3.out.1 hb) (by have := hb.size; have := HB3.out.2; have := HZ.out; omega) (.slice q1 m1 d1) (.slice q2 m2 d2) (.slice q3 m3 d3) HS2.out)
  unfold PutP at HPU2
  clear hW3 a0 a1 a2 a3 a4 s0 s1 s2 s3 fa
  obtain ⟨a0, a1, a2, a3, a4⟩ := HK3.out.1.cells
  obtain ⟨y0, y1, y2, y3, y4⟩ := HK3.out.2.1.cells
  obtain ⟨x0, x1, x2, x3, x4, x5, x6, x7⟩ := HK3.out.2.2.1.cells
  obtain ⟨s0, s1, s2, s3⟩ := HK3.out.2.2.2.cells
  have hq1 : Below W3.heap.size W3 W3.drew := below_drewOne
  go_region_law (first
    | (go_simp; go_at_call 51; refine (HFI2.out _ below_drewOne).mono ?_; rintro e wf ⟨rfl, hqb⟩; have hq2 := bnext hq1 hqb; obtain ⟨⟨a0, a1, a2, a3, a4⟩, ⟨y0, y1, y2, y3, y4⟩, ⟨x0, x1, x2, x3, x4, x5, x6, x7⟩, ⟨s0, s1, s2, s3⟩, fy⟩ := HD.out _ hq2; have HQ2 := Lib.hid hq2)
    | (go_simp; go_at_call 50; refine (HPU2.out _ HQ2.out).mono ?_; rintro e wp ⟨ks5, rfl, htp, hqp⟩; have hq3 := bnext HQ2.out hqp; obtain ⟨pk5, ck5, rfl, _⟩ := id htp.tk; have HTP := Lib.hid htp; have HQ3 := Lib.hid hq3; obtain ⟨⟨a0, a1, a2, a3, a4⟩, ⟨y0, y1, y2, y3, y4⟩, ⟨x0, x1, x2, x3, x4, x5, x6, x7⟩, ⟨s0, s1, s2, s3⟩, fy⟩ := HD.out _ hq3; clear htp hqp hq3))
  all_goals
    go_wp2_with fail
    refine bodyPost_ret (v := .tuple #[lv 2 (.slice q1 m1 d1) (.slice q2 m2 d2) (.slice q3 m3 d3) (.slice pk5 8 ck5), .int .i64 hx, .int .i64 0]) (by simp [results, Tryz.results18, go_sem, y0, y1, y2, y3, y4]) rfl ?_
    have hkp := keeps5 (Keeps.refl X2 wp) HX2b.out.2.2 (.int .i64 2) (.slice q1 m1 d1) (.slice q2 m2 d2) (.slice q3 m3 d3) (.slice pk5 8 ck5)
    exact ⟨_, _, _, _, rfl, DL.mono (X := X2) ⟨(HR3.out.below HQ3.out).keeps hkp, _, (TasksX.keeps (by rw [HTM.out]; exact HTP.out) hkp (fun _ k => k))⟩ (fun x _ hx => HX2b.out.1 x hx), below5 (bnext HB3.out.1 HQ3.out) (by omega) _ _ _ _ _⟩
set_option maxHeartbeats 4000000 in
set_option maxRecDepth 100000 in
theorem radd_none13 (X : Nat → Prop) (A : Tab) (T : Nat → Tk) (hg : LGood A T) (gs ts ls ks : Value) (w : World) (h : DL X w A T gs ts ls ks) (p : Int) (hp : 0 ≤ p ∧ p ≤ 31) (hf : A.free = none) :
    Calls Tryz.prog 18 #[lv 2 gs ts ls ks, .int .i64 p] w (AddR X w A T 0 30) := by
  have HN := Lib.hid (fun W => rnew_ok p W hp)
  have HDL := Lib.hid h
  have HAD := Lib.hid (fun W (hb : Below w.heap.size w W) => radd_none X A hg.tab 0 hf gs ts ls W (h.rt.below hb))
  rw [hg.kind] at HAD
  obtain ⟨⟨p1, n1, c1, p2, n2, c2, p3, n3, c3, rfl, rfl, rfl⟩, pk, ck, rfl⟩ := sl5 h
  obtain ⟨WA, hWA⟩ : ∃ WA, WA = (w.alloc (.cells #[.int .i64 2, .slice p1 n1 c1, .slice p2 n2 c2, .slice p3 n3 c3, .slice pk 8 ck] LT)).alloc (.cells #[.int .i64 0, .slice none 0 0, .slice none 0 0, .slice none 0 0, .slice none 0 0] LT) := ⟨_, rfl⟩
  have HB := Lib.hid (show Below w.heap.size w WA from by rw [hWA]; exact ((Below.refl _ _).alloc (Nat.le_refl _) _).alloc (by simp) _)
  have HT := Lib.hid (show HasL WA w.heap.size 2 (.slice p1 n1 c1) (.slice p2 n2 c2) (.slice p3 n3 c3) (.slice pk 8 ck) ∧ HasL WA (w.heap.size + 1) 0 (.slice none 0 0) (.slice none 0 0) (.slice none 0 0) (.slice none 0 0) from by rw [hWA]; exact ⟨has_old (has_new _ _ _ rfl) _, has_new _ _ _ (by simp)⟩)
  have HW := Lib.hid hWA
  clear hWA h hp hf hg
  go_enter Tryz.func18, Tryz.ntmps18
  go_upto_region 1 with fail
  rw [← HW.out]
  go_wp2_with fail
  refine (HN.out _).mono ?_
  rintro e w1 ⟨rfl, hb1⟩
  have HB1 := Lib.hid (bnext HB.out hb1)
  have HT1 := Lib.hid (HT.out.1.below hb1)
  have HT2 := Lib.hid (HT.out.2.below hb1)
  obtain ⟨a0, a1, a2, a3, a4⟩ := HT1.out.cells
  have hl := has_lt HT2.out
  have hl0 : w.heap.size < w1.heap.size := by omega
  clear hb1
  go_wp2_with fail
  refine (HAD.out _ (HB1.out.alloc HB1.out.size _)).mono ?_
  rintro e w2 ⟨gs2, ts2, ls2, rfl, hrt2, hb2⟩
  obtain ⟨q1, m1, d1, q2, m2, d2, q3, m3, d3, rfl, rfl, rfl⟩ := hrt2.sl3
  have HB2 := Lib.hid (bnext (HB1.out.alloc HB1.out.size _) hb2)
  have HU1 := Lib.hid (HasL.below (has_old HT1.out _) hb2)
  have HU2 := Lib.hid (HasL.below (has_old HT2.out _) hb2)
  clear hrt2 hb2 a0 a1 a2 a3 a4 hl hl0
  obtain ⟨a0, a1, a2, a3, a4⟩ := HU1.out.cells
  obtain ⟨y0, y1, y2, y3, y4⟩ := HU2.out.cells
  have fr := fun j => has_free HU2.out j
  have hl := has_lt HU2.out
  have hl0 : w.heap.size < w2.heap.size := by omega
  have HL2 := Lib.hid hl0
  go_wp2_with fail
  refine bodyPost_ret (v := .tuple #[lv 2 (.slice p1 n1 c1) (.slice p2 n2 c2) (.slice p3 n3 c3) (.slice pk 8 ck), .int .i64 0, .int .i64 30]) (by simp [results, Tryz.results18, go_sem, y0, y1, y2, y3, y4, hl]) rfl ?_
  have hbel : Below w.heap.size w ((((((w2.setCell ⟨w.heap.size + 1, 0, none⟩ (.int .i64 2)).setCell ⟨w.heap.size + 1, 1, none⟩ (.slice p1 n1 c1)).setCell ⟨w.heap.size + 1, 2, none⟩ (.slice p2 n2 c2)).setCell ⟨w.heap.size + 1, 3, none⟩ (.slice p3 n3 c3)).setCell ⟨w.heap.size + 1, 4, none⟩ (.slice pk 8 ck)).alloc (.cells #[.int .i64 2, .slice q1 m1 d1, .slice q2 m2 d2, .slice q3 m3 d3] TT3)) :=
    (below5 HB2.out (by omega) _ _ _ _ _).alloc (by have := HL2.out; simp [World.setCell]; omega) _
  exact ⟨_, _, _, _, rfl, HDL.out.below hbel, hbel⟩
theorem radd13 (X : Nat → Prop) (A : Tab) (T : Nat → Tk) (hg : LGood A T) (gs ts ls ks : Value) (w : World) (h : DL X w A T gs ts ls ks) (hX : ∀ x, X x → x < w.heap.size) (p : Int) :
    Calls Tryz.prog 18 #[lv 2 gs ts ls ks, .int .i64 p] w (AddR X w (addA A p) (addT A T p) (addH A p) (addN A p)) := by
  rcases add_ways A T p with ⟨hp, e1, e2, e3, e4⟩ | ⟨hp, hf, e1, e2, e3, e4⟩ | ⟨i, hp, hf, e1, e2, e3, e4⟩
  · rw [e1, e2, e3, e4]; exact radd_no13 X A T gs ts ls ks w h p hp
  · rw [e1, e2, e3, e4]; exact radd_none13 X A T hg gs ts ls ks w h p hp hf
  · rw [e1, e2, e3, e4]; exact radd_some13 X A T hg gs ts ls ks w h hX p hp i hf
end Go.Proofs.YthbkinopgialmaaGreatDoor
/- The document's own New of a leaf: eight free slots; no condition. -/
namespace Go.Proofs.YthbkinopgialmaaGreatDoor
open Go.RowKit Tsk

theorem tasksX_zero {X : Nat → Prop} {B : Nat} {W : World} {v : Value} (h : W.ownsRow B KT 8 v 8 (tkL (fun _ => tk0) 8)) (hX : ∀ x, X x → x < B) : TasksX X W v 8 (tm (fun _ => tk0) (fun _ => .slice none 0 0)) :=
  ⟨own_tasks h (by omega) fun j _ => (JobsX.nil X W _).1, fun a n c e _ k => by
    have h1 := hX _ k
    have h2 := (h.lt a.block (by rw [e]; rfl)).1
    omega, fun _ _ => JobsX.nil _ _ _⟩
/-- What the document's New answers. -/
def NewR13 (X : Nat → Prop) (w : World) (e : Ending) (w' : World) : Prop := ∃ gs ts ls ks, e = .returned (lv 2 gs ts ls ks) ∧ DL X w' (Tab.new 2 8) (fun _ => tk0) gs ts ls ks ∧ Below w.heap.size w w'
abbrev T3 : TypeId := 28
set_option maxHeartbeats 4000000 in
set_option maxRecDepth 100000 in
theorem rnew13 (X : Nat → Prop) (w : World) (hX : ∀ x, X x → x < w.heap.size) :
    Calls Tryz.prog 6 #[] w (NewR13 X w) := by
  obtain ⟨X2, hX2⟩ : ∃ X2 : Nat → Prop, X2 = fun x => X x ∨ x = w.heap.size := ⟨_, rfl⟩
  have HX2 := Lib.hid (show (∀ x, X2 x → x < w.heap.size + 1) ∧ (∀ x, X x → X2 x) ∧ X2 w.heap.size from by rw [hX2]; exact ⟨fun x hx => by rcases hx with hx | hx; have := hX x hx; omega; omega, fun x hx => .inl hx, .inr rfl⟩)
  have HN := Lib.hid (fun W (hs : w.heap.size + 1 ≤ W.heap.size) => (snew_ok X2 2 8 W (fun x hx => Nat.lt_of_lt_of_le (HX2.out.1 x hx) hs) (by omega) (by omega) (by omega) (by omega)).mono (R' := fun e w' => ∃ gs ts ls, e = .returned (.tuple #[rv 2 gs ts ls, .int .i64 0]) ∧ RT X2 w' (Tab.new 2 8) gs ts ls ∧ Below W.heap.size W w') (by rintro e w' ⟨gs, ts, ls, rfl, a, b⟩; exact ⟨gs, ts, ls, rfl, a, b⟩))
  have hmk : ∀ w, (Instr.makeSlice 29 (.int .i64 8) (.int .i64 8)).run Tryz.prog w = .ok (.slice (some ⟨w.heap.size, 0, none⟩) 8 8) (w.alloc (.cells (tkZ 8) KT)) := fun w => make_tasks 8 (by omega) w
  obtain ⟨WA, hWA⟩ : ∃ WA, WA = w.alloc (.cells #[.int .i64 0, .slice none 0 0, .slice none 0 0, .slice none 0 0, .slice none 0 0] LT) := ⟨_, rfl⟩
  have HB := Lib.hid (show Below w.heap.size w WA ∧ WA.heap.size = w.heap.size + 1 from by rw [hWA]; exact ⟨(Below.refl _ _).alloc (Nat.le_refl _) _, by simp⟩)
  have HT := Lib.hid (show HasL WA w.heap.size 0 (.slice none 0 0) (.slice none 0 0) (.slice none 0 0) (.slice none 0 0) from by rw [hWA]; exact hasL_new _ _ _ _ _ _)
  have HW := Lib.hid hWA
  clear hWA hX hX2
  go_enter Tryz.func6, Tryz.ntmps6
  go_upto_region 1 with fail
  rw [← HW.out]
  go_wp2_with fail
  refine (HN.out WA (by have := HB.out.2; omega)).mono ?_
  rintro e w1 ⟨gs, ts, ls, rfl, hrt, hb1⟩
  obtain ⟨p1, n1, c1, p2, n2, c2, p3, n3, c3, rfl, rfl, rfl⟩ := hrt.sl3
  have hs1 := hb1.size
  obtain ⟨W2, hW2⟩ : ∃ W2, W2 = w1.alloc (.cells #[.int .i64 2, .slice p1 n1 c1, .slice p2 n2 c2, .slice p3 n3 c3] T3) := ⟨_, rfl⟩
  have HL := Lib.hid (show w.heap.size < w1.heap.size ∧ W2.heap.size = w1.heap.size + 1 ∧ Below w.heap.size w W2 from by
    have := HB.out.2
    rw [hW2]
    exact ⟨by omega, by simp, (bnext HB.out.1 hb1).alloc (bnext HB.out.1 hb1).size _⟩)
  have hT2 : Has W2 w1.heap.size (.cells #[.int .i64 2, .slice p1 n1 c1, .slice p2 n2 c2, .slice p3 n3 c3] T3) := by rw [hW2]; exact has_new _ _ _ rfl
  have hT1 : HasL W2 w.heap.size 0 (.slice none 0 0) (.slice none 0 0) (.slice none 0 0) (.slice none 0 0) := by rw [hW2]; exact has_old (HT.out.below hb1) _
  have HRT := Lib.hid (show RT X2 W2 (Tab.new 2 8) (.slice p1 n1 c1) (.slice p2 n2 c2) (.slice p3 n3 c3) from by rw [hW2]; exact hrt.below ((Below.refl _ _).alloc (Nat.le_refl _) _))
  have HW2 := Lib.hid hW2
  have l0 : w.heap.size < W2.heap.size := has_lt hT1
  have l1 : w1.heap.size < W2.heap.size := has_lt hT2
  have n0 : ¬ w.heap.size = w1.heap.size := by have := HL.out.1; omega
  have n1' : ¬ w1.heap.size = w.heap.size := by have := HL.out.1; omega
  have c0 := has_cell hT2 0
  have c1' := has_cell hT2 1
  have c2' := has_cell hT2 2
  have c3' := has_cell hT2 3
  simp only [List.getElem?_toArray, List.getElem?_cons_zero, List.getElem?_cons_succ] at c0 c1' c2' c3'
  obtain ⟨y0, y1, y2, y3, y4⟩ := hT1.cells
  have fr := fun j => has_free hT1 j
  clear hb1 hs1 hrt hW2 hT1 hT2
  go_upto_region 2 with fail
  rw [← HW2.out]
  go_region
  all_goals
    go_wp2_with fail
    refine bodyPost_ret (v := lv 2 (.slice p1 n1 c1) (.slice p2 n2 c2) (.slice p3 n3 c3) (.slice (some ⟨W2.heap.size, 0, none⟩) 8 8)) (by simp [results, Tryz.results6, go_sem, y0, y1, y2, y3, y4, l0]) rfl ?_
    have hk := keeps5 (Keeps.refl X2 W2) HX2.out.2.2 (.int .i64 2) (.slice p1 n1 c1) (.slice p2 n2 c2) (.slice p3 n3 c3) (.slice (some ⟨W2.heap.size, 0, none⟩) 8 8)
    have hb5 := below5 HL.out.2.2 (g := w.heap.size) (Nat.le_refl _) (.int .i64 2) (.slice p1 n1 c1) (.slice p2 n2 c2) (.slice p3 n3 c3) (.slice (some ⟨W2.heap.size, 0, none⟩) 8 8)
    exact ⟨_, _, _, _, rfl, DL.mono (X := X2) ⟨(HRT.out.keeps hk).below (below_drew ((Below.refl _ _).alloc (Nat.le_refl _) _)), fun _ => .slice none 0 0, tasksX_zero (B := w.heap.size + 1) (own_drew8 (own_tkZ _ 8 _ (by simp [World.setCell]) (by omega) (by omega))) HX2.out.1⟩ (fun x _ hx => HX2.out.2.1 x hx), below_drew (hb5.alloc hb5.size _)⟩
end Go.Proofs.YthbkinopgialmaaGreatDoor
/- The document's own Slots: may slots be, and how many are taken; no condition but those that each row names. -/
namespace Go.Proofs.YthbkinopgialmaaGreatDoor
open Go.RowKit

set_option maxHeartbeats 1000000 in
theorem rslots_yes (S : Nat → Prop) (gens : List Int) (taken : List Bool) (v x : Value) (w : World) (h : Lst S w v (ints gens)) (g : Lst S w x (bools taken)) (hl : taken.length = gens.length) (ho : standB gens taken gens.length) :
    Calls Tryz.prog 73 #[v, x] w fun e w' => e = .returned (.tuple #[.int .i64 (rank taken gens.length : Nat), .int .i64 0]) ∧ w = w' := by
  obtain ⟨p, cp, rfl, hm, hg⟩ := h
  obtain ⟨q, cq, rfl, _, ht⟩ := g
  have e1 := ints_len gens
  have e2 := bools_len taken
  rw [e1] at hm ⊢
  rw [e2, hl]
  have HG := Lib.hid hg
  have HT := Lib.hid ht
  have HO := Lib.hid ho
  have HL := Lib.hid hl
  clear hg ht e1 e2 ho hl
  go_enter Tryz.func73, Tryz.ntmps73
  go_wp2_with fail
  go_loop [6, 7, 8] (fun n i _ => ∃ k : Nat, k ≤ gens.length ∧ i = .int .i64 k ∧ n = .int .i64 (rank taken k : Nat)) (fun _ i _ => gens.length - (intOf i).toNat)
  case atStart => exact ⟨0, Nat.zero_le _, rfl, rfl⟩
  case round =>
    obtain ⟨k, hk, rfl, rfl⟩ := hrel
    have hrk := rank_le taken k
    have HSS := Lib.hid (rank_succ taken k)
    generalize hrn : rank taken k = rn at *
    have HRN := Lib.hid hrn
    clear hrn
    by_cases hlt : k < gens.length
    · obtain ⟨b, off, rfl, _, hc⟩ := HG.out k _ (ints_at hlt)
      obtain ⟨b2, off2, rfl, _, hc2⟩ := HT.out k _ (bools_at (by rw [HL.out]; exact hlt))
      have hok := HO.out k hlt
      unfold okG at hok
      generalize gens.getD k 0 = z at *
      generalize taken.getD k false = t at *
      cases t with
      | true =>
        obtain ⟨h1, h2⟩ := hok
        rw [if_pos rfl] at h2
        go_wp2_with fail
        go_round
        case rel => exact ⟨k + 1, by omega, by go_num, by rw [HSS.out]; first | rfl | go_num⟩
        case measure => simp [intOf]; omega
      | false =>
        obtain ⟨h1, h2⟩ := hok
        rw [if_neg (by simp)] at h2
        go_wp2_with fail
        go_round
        case rel => exact ⟨k + 1, by omega, by go_num, by rw [HSS.out]; first | rfl | go_num⟩
        case measure => simp [intOf]; omega
    · have hk' : k = gens.length := by omega
      have HE := Lib.hid (show rank taken gens.length = rn by rw [← hk']; exact HRN.out)
      clear hk'
      go_wp2_with fail
      go_ret2
      exact ⟨ret_two (by rw [HE.out]) rfl, rfl⟩

set_option maxHeartbeats 1000000 in
theorem rslots_no (S : Nat → Prop) (gens : List Int) (taken : List Bool) (v x : Value) (w : World) (h : Lst S w v (ints gens)) (g : Lst S w x (bools taken)) (ho : ¬ (taken.length = gens.length ∧ standB gens taken gens.length)) :
    Calls Tryz.prog 73 #[v, x] w fun e w' => e = .returned (.tuple #[.int .i64 0, .int .i64 270]) ∧ w = w' := by
  obtain ⟨p, cp, rfl, hm, hg⟩ := h
  obtain ⟨q, cq, rfl, hm2, ht⟩ := g
  have e1 := ints_len gens
  have e2 := bools_len taken
  rw [e1] at hm ⊢
  rw [e2] at hm2 ⊢
  by_cases hl : taken.length = gens.length
  · rw [hl]
    have HG := Lib.hid hg
    have HT := Lib.hid ht
    have HO := Lib.hid (show ¬ standB gens taken gens.length from fun k => ho ⟨hl, k⟩)
    have HL := Lib.hid hl
    clear hg ht e1 e2 ho hl hm2
    go_enter Tryz.func73, Tryz.ntmps73
    go_wp2_with fail
    go_loop [6, 7, 8] (fun n i _ => ∃ k : Nat, k ≤ gens.length ∧ i = .int .i64 k ∧ Hid (standB gens taken k) ∧ ∃ m : Nat, m ≤ k ∧ n = .int .i64 m) (fun _ i _ => gens.length - (intOf i).toNat)
    case atStart => exact ⟨0, Nat.zero_le _, rfl, Lib.hid fun i hi => by omega, 0, Nat.le_refl _, rfl⟩
    case round =>
      obtain ⟨k, hk, rfl, HS, m, hm3, rfl⟩ := hrel
      by_cases hlt : k < gens.length
      · obtain ⟨b, off, rfl, _, hc⟩ := HG.out k _ (ints_at hlt)
        obtain ⟨b2, off2, rfl, _, hc2⟩ := HT.out k _ (bools_at (by rw [HL.out]; exact hlt))
        by_cases hok : okG gens taken k
        · have HS2 := Lib.hid (stand_succ HS.out hok)
          unfold okG at hok
          generalize gens.getD k 0 = z at *
          generalize taken.getD k false = t at *
          cases t with
          | true =>
            obtain ⟨h1, h2⟩ := hok
            rw [if_pos rfl] at h2
            go_wp2_with fail
            go_round
            case rel => exact ⟨k + 1, by omega, by go_num, HS2, by first | exact ⟨m, by omega, rfl⟩ | exact ⟨m + 1, by omega, by go_num⟩⟩
            case measure => simp [intOf]; omega
          | false =>
            obtain ⟨h1, h2⟩ := hok
            rw [if_neg (by simp)] at h2
            go_wp2_with fail
            go_round
            case rel => exact ⟨k + 1, by omega, by go_num, HS2, by first | exact ⟨m, by omega, rfl⟩ | exact ⟨m + 1, by omega, by go_num⟩⟩
            case measure => simp [intOf]; omega
        · unfold okG at hok
          generalize gens.getD k 0 = z at *
          generalize taken.getD k false = t at *
          by_cases hz : z < 1
          · clear hok
            cases t
            all_goals
              go_wp2_with fail
              go_ret2
              exact ⟨rfl, rfl⟩
          · cases t with
            | true =>
              have h2 : 1023 < z := by simp at hok; omega
              clear hok
              go_wp2_with fail
              go_ret2
              exact ⟨rfl, rfl⟩
            | false =>
              have h2 : 1024 < z := by simp at hok; omega
              clear hok
              go_wp2_with fail
              go_ret2
              exact ⟨rfl, rfl⟩
      · have hk' : k = gens.length := by omega
        exact absurd (hk' ▸ HS.out) HO.out
  · have hb1 : decide (taken.length = gens.length) = false := decide_eq_false hl
    clear ho
    go_enter Tryz.func73, Tryz.ntmps73
    go_wp2_with fail
    go_ret2
    exact ⟨rfl, rfl⟩
end Go.Proofs.YthbkinopgialmaaGreatDoor
