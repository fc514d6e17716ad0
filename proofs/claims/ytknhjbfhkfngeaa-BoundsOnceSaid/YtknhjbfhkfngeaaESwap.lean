/- The program's above, below, place, ahead and swap of a heap; no condition but those that each row names. -/
import Derived.Test.YtknhjbfhkfngeaaEOrd
import Derived.RegionTactic
import Derived.BigRegion
import Derived.BigQuiet
import Derived.Deep.QuietTactic
import Derived.StillTailTactics
import Derived.Deep.DeepCutAuto
namespace Go.Proofs.Ytknhjbfhkfngeaa
open Go.RowKit Go.Maps Hp

set_option maxHeartbeats 400000 in
theorem above_any (w : World) (p : Nat) (h0 : 0 < p) (h1 : p ≤ 4096) :
    Calls Try.prog 24 #[.int .i64 p] w fun e w' => e = .returned (.int .i64 (par p : Nat)) ∧ w = w' := by
  have z0 : (0 : Int) ≤ (p : Int) - 1 := by omega
  have HE := Lib.hid (show (((p : Int) - 1) / 2) = ((par p : Nat) : Int) from by unfold par; omega)
  go_enter Try.func24, Try.ntmps24
  go_wp2
  go_ret
  exact ⟨ret_int HE.out, rfl⟩
set_option maxHeartbeats 400000 in
theorem below_any (w : World) (p : Nat) (h1 : p ≤ 4096) :
    Calls Try.prog 27 #[.int .i64 p] w fun e w' => e = .returned (.int .i64 (2 * (p : Int) + 1)) ∧ w = w' := by
  go_enter Try.func27, Try.ntmps27
  go_wp2
  go_ret
  exact ⟨rfl, rfl⟩
set_option maxHeartbeats 400000 in
theorem place_nil_I (w : World) (id : Int) :
    Calls Try.prog 18 #[.pointer none, .int .i64 id] w fun e w' => e = .returned (.tuple #[.int .i64 0, .bool false]) ∧ w = w' := by
  go_enter Try.func18, Try.ntmps18
  go_wp2
  go_ret2
  exact ⟨rfl, rfl⟩
set_option maxHeartbeats 400000 in
/-- A map that there is not. -/
theorem place_none_I (w : World) (b : Nat) (id : Int) (hid : In64 id) (f1 : w.cell? ⟨b, 1, none⟩ = some (.map none)) :
    Calls Try.prog 18 #[.pointer (some ⟨b, 0, none⟩), .int .i64 id] w fun e w' => e = .returned (.tuple #[.int .i64 0, .bool false]) ∧ w = w' := by
  have hl : ∀ w : World, (Instr.lookup MT (.map none) (.int .i64 id) true).run Try.prog w = .ok (.tuple #[.int .i64 0, .bool false]) w := fun w => Maps.look_nil true keyLaw Try.underlying47 (zeroInt w) hid.key
  clear hid
  go_enter Try.func18, Try.ntmps18
  go_wp2
  go_ret2
  exact ⟨rfl, rfl⟩
/-- What a look-up tells. -/
theorem Places.yes {α : Type} {w : World} {mb : Nat} {L : List (Int × α)} (h : Places w mb L) {i : Nat} (hi : i < L.length) (hid : In64 L[i].1) :
    (Instr.lookup MT (.map (some mb)) (.int .i64 L[i].1) true).run Try.prog w = .ok (.tuple #[.int .i64 i, .bool true]) w := by
  obtain ⟨D, ho, _, hs⟩ := h
  obtain ⟨v, ps, hrun, hv⟩ := ho.look_ok keyLaw Try.underlying47 (zeroInt w) (plainElem_int Try.underlying3 (a := 0) (by decide)) hid.key
  obtain ⟨h1, h2⟩ := hs.at_ i hi
  rw [h2] at hv
  obtain ⟨c, rfl, hc, _⟩ := plainElem_int_inv Try.underlying3 hv
  rw [h1] at hrun
  rw [hrun]
  unfold litI at hc
  simp only [Prod.mk.injEq, DataW.lit.injEq, Lit.int.injEq, true_and] at hc
  rw [hc.1]
theorem Places.nope {α : Type} {w : World} {mb : Nat} {L : List (Int × α)} (h : Places w mb L) {a : Int} (ha : ∀ e ∈ L, e.1 ≠ a) (hid : In64 a) :
    (Instr.lookup MT (.map (some mb)) (.int .i64 a) true).run Try.prog w = .ok (.tuple #[.int .i64 0, .bool false]) w := by
  obtain ⟨D, ho, _, hs⟩ := h
  obtain ⟨v, ps, hrun, hv⟩ := ho.look_ok keyLaw Try.underlying47 (zeroInt w) (plainElem_int Try.underlying3 (a := 0) (by decide)) hid.key
  have h1 := hs.no a ha
  rw [atKey_of_not_has h1] at hv
  obtain ⟨c, rfl, hc, _⟩ := plainElem_int_inv Try.underlying3 hv
  rw [h1] at hrun
  rw [hrun]
  simp only [Prod.mk.injEq, DataW.lit.injEq, Lit.int.injEq, true_and] at hc
  rw [← hc.1]
section
variable {B : Nat} {w : World} {L : List (Int × Int)} {b g cap mb : Nat}
set_option maxHeartbeats 400000 in
theorem place_yes_I (h : HW enc_I HT_I NT_I B w L b g cap mb) (i : Nat) (hi : i < L.length) (id : Int) (he : L[i].1 = id) :
    Calls Try.prog 18 #[.pointer (some ⟨b, 0, none⟩), .int .i64 id] w fun e w' => e = .returned (.tuple #[.int .i64 i, .bool true]) ∧ w = w' := by
  have hl := h.mp.yes hi (h.ids _ (List.getElem_mem hi))
  rw [he] at hl
  have f1 := h.f1
  clear h he hi
  go_enter Try.func18, Try.ntmps18
  go_wp2
  go_ret2
  exact ⟨rfl, rfl⟩
set_option maxHeartbeats 400000 in
theorem place_no_I (h : HW enc_I HT_I NT_I B w L b g cap mb) (id : Int) (hid : In64 id) (ha : ∀ e ∈ L, e.1 ≠ id) :
    Calls Try.prog 18 #[.pointer (some ⟨b, 0, none⟩), .int .i64 id] w fun e w' => e = .returned (.tuple #[.int .i64 0, .bool false]) ∧ w = w' := by
  have hl := h.mp.nope ha hid
  have f1 := h.f1
  clear h ha hid
  go_enter Try.func18, Try.ntmps18
  go_wp2
  go_ret2
  exact ⟨rfl, rfl⟩

set_option maxHeartbeats 1000000 in
set_option maxRecDepth 100000 in
theorem ahead_I (h : HW enc_I HT_I NT_I B w L b g cap mb) (i j : Nat) (hi : i < L.length) (hj : j < L.length) (ii jj : Int) (hii : ii = i) (hjj : jj = j) :
    Calls Try.prog 23 #[.pointer (some ⟨b, 0, none⟩), .int .i64 ii, .int .i64 jj] w fun e w' => e = .returned (.bool (ahB kc_I (at' L i) (at' L j))) ∧ Below w.heap.size w w' := by
  subst hii
  subst hjj
  rw [at_get hi, at_get hj]
  have HO := fun (w : World) => Lib.hid (order_I L[i] L[j] w)
  have HE := Lib.hid (show ahB kc_I L[i] L[j] = decide (cf kc_I L[i] L[j] < 0) from rfl)
  generalize cf kc_I L[i] L[j] = c at HO HE
  obtain ⟨i0, i1, _, _⟩ := h.row.cells _ i hi
  obtain ⟨j0, j1, _, _⟩ := h.row.cells _ j hj
  have f0 := h.f0
  have n4 := h.n4
  generalize L[i].1 = xi at HO i0
  generalize L[i].2 = ki at HO i1
  generalize L[j].1 = xj at HO j0
  generalize L[j].2 = kj at HO j1
  have hi' : (i : Int) < (L.length : Int) := by omega
  have hj' : (j : Int) < (L.length : Int) := by omega
  clear h
  go_enter Try.func23, Try.ntmps23
  go_wp2_with fail
  go_still_tail 14, (by kernel_rfl)
  change wpList _ _ _ _ _ w.drew
  go_wp2_with fail
  refine (HO _).out.mono ?_
  rintro e w1 ⟨rfl, rfl⟩
  go_wp2_with fail
  go_ret
  exact ⟨ret_bool HE.out.symm, (((Below.refl _ w).drew).alloc (by simp) _).alloc (by simp) _⟩

/-- The two stores of an exchange. -/
theorem ERow.swap_I {w : World} {L : List (Int × Int)} {g cap : Nat} (h : ERow enc_I NT_I w L g cap) (i j : Nat) :
    ERow enc_I NT_I ((((w.setCell ⟨g, i * 2, none⟩ (.int .i64 (at' L j).1)).setCell ⟨g, i * 2 + 1, none⟩ (enc_I (at' L j).2)).setCell ⟨g, j * 2, none⟩ (.int .i64 (at' L i).1)).setCell ⟨g, j * 2 + 1, none⟩ (enc_I (at' L i).2)) (sw L i j) g cap :=
  (h.set enc_I i (at' L j)).set enc_I j (at' L i)
set_option maxHeartbeats 2000000 in
set_option maxRecDepth 100000 in
theorem swap_I (h : HW enc_I HT_I NT_I B w L b g cap mb) (i j : Nat) (hi : i < L.length) (hj : j < L.length) (ii jj : Int) (hii : ii = i) (hjj : jj = j) :
    Calls Try.prog 25 #[.pointer (some ⟨b, 0, none⟩), .int .i64 ii, .int .i64 jj] w fun e w' => e = .returned (.tuple #[]) ∧ HW enc_I HT_I NT_I B w' (sw L i j) b g cap mb ∧ Keeps (fun x => x = g ∨ x = mb) w w' := by
  subst hii
  subst hjj
  have HH := Lib.hid h
  obtain ⟨i0, i1, iz0, iz1⟩ := h.row.cells _ i hi
  obtain ⟨j0, j1, jz0, jz1⟩ := h.row.cells _ j hj
  have HR := Lib.hid (ERow.swap_I h.row.drew i j)
  have HI := Lib.hid (at_get hi)
  have HJ := Lib.hid (at_get hj)
  have f0 := h.f0
  have n4 := h.n4
  rw [HI.out, HJ.out] at HR
  have HXi := Lib.hid (h.ids _ (List.getElem_mem hi))
  have HXj := Lib.hid (h.ids _ (List.getElem_mem hj))
  obtain ⟨xi, hxi⟩ : ∃ x, x = L[i].1 := ⟨_, rfl⟩
  obtain ⟨ki, hki⟩ : ∃ x, x = L[i].2 := ⟨_, rfl⟩
  obtain ⟨xj, hxj⟩ : ∃ x, x = L[j].1 := ⟨_, rfl⟩
  obtain ⟨kj, hkj⟩ : ∃ x, x = L[j].2 := ⟨_, rfl⟩
  rw [← hxi] at i0 HR HXi
  rw [← hki] at i1 HR
  rw [← hxj] at j0 HR HXj
  rw [← hkj] at j1 HR
  have HEi := Lib.hid hxi
  have HEj := Lib.hid hxj
  have hi' : (i : Int) < (L.length : Int) := by omega
  have hj' : (j : Int) < (L.length : Int) := by omega
  have q0 : (w.setCell ⟨g, i * 2, none⟩ (.int .i64 xj)).cell? ⟨g, j * 2, none⟩ = some (.int .i64 xj) := by
    by_cases e : i = j
    · subst e; exact World.cell?_setCell_same _ _ _ (by rw [i0])
    · rw [World.cell?_setCell_other _ _ _ _ (by simp)]; exact j0
  have q1 : ((w.setCell ⟨g, i * 2, none⟩ (.int .i64 xj)).setCell ⟨g, i * 2 + 1, none⟩ ((.int .i64 kj))).cell? ⟨g, j * 2 + 1, none⟩ = some ((.int .i64 kj)) := by
    by_cases e : i = j
    · subst e; exact World.cell?_setCell_same _ _ _ (by rw [World.cell?_setCell_other _ _ _ _ (by simp)]; exact i1)
    · rw [World.cell?_setCell_other _ _ _ _ (by simp), World.cell?_setCell_other _ _ _ _ (by simp)]; exact j1
  clear h hxi hki hxj hkj
  go_enter Try.func25, Try.ntmps25
  go_upto_region 0 with fail
  go_cut [] (fun wx => Hid (ERow enc_I NT_I wx (sw L i j) g cap ∧ Keeps (fun x => x = g) w wx))
  case first =>
    go_region
    all_goals go_wp2_with fail
    all_goals
      go_meet
      refine Lib.hid ⟨HR.out, ?_⟩
      exact (((((Keeps.refl (fun x => x = g) w).drew).setCell ⟨g, _, none⟩ _ (.inl rfl)).setCell ⟨g, _, none⟩ _ (.inl rfl)).setCell ⟨g, _, none⟩ _ (.inl rfl)).setCell ⟨g, _, none⟩ _ (.inl rfl)
  case rest =>
    obtain ⟨hr, hk⟩ := hcut.out
    have H1 := HH.out
    have b0 : wc.cell? ⟨b, 0, none⟩ = some (.slice (some ⟨g, 0, none⟩) L.length cap) := (hk.cell (p := ⟨b, 0, none⟩) H1.lt (fun e => H1.bg e)).trans H1.f0
    have b1 : wc.cell? ⟨b, 1, none⟩ = some (.map (some mb)) := (hk.cell (p := ⟨b, 1, none⟩) H1.lt (fun e => H1.bg e)).trans H1.f1
    have hl := sw_len L i j
    have c0 := (hr.cells _ i (by omega)).1
    have d0 := (hr.cells _ j (by omega)).1
    have ei : (sw L i j)[i].1 = xj := by
      rw [sw_get hi hj]
      by_cases e : i = j
      · subst e; simp [HEj.out]
      · simp [e, HEj.out]
    have ej : (sw L i j)[j].1 = xi := by rw [sw_get hi hj]; simp [HEi.out]
    rw [ei] at c0
    rw [ej] at d0
    obtain ⟨D, ho, hs, hp⟩ := (H1.mp.keeps hk (fun e => H1.gm e.symm))
    have HSP := Lib.hid (spec_swap (ho.tidy keyLaw) hp hi hj)
    rw [← HEi.out, ← HEj.out] at HSP
    have HSZ := Lib.hid hs
    have HB := Lib.hid (show b < wc.heap.size from Nat.lt_of_lt_of_le H1.lt hk.size)
    have HG := Lib.hid hr
    have HK := Lib.hid hk
    have hgm := H1.gm
    have hbm := H1.bm
    clear hp hs hr hk hcut H1 i0 i1 iz0 iz1 j0 j1 jz0 jz1 f0 q0 q1 ei ej hl
    go_wp2_with fail
    go_still_tail 13, (by kernel_rfl)
    change wpList _ _ _ _ _ wc.drew
    have ho' : wc.drew.ownsMap Try.prog 3 (plainElem Try.prog 3) mb L.length D := ho
    clear ho
    refine wpList_mapUpdate_own _ rfl _ _ _ 47 rfl 3 3 keyLaw Try.underlying47 _ mb _ D rfl ho' (by unfold maxLen; omega) _ _ _ rfl rfl HXj.out.key _ [] (plainElem_int Try.underlying3 (In64.nat (by omega)).wf) ?_
    intro w1 hown1 hgrow1
    have hk1 := keeps_grown hgrow1
    have e0 : w1.cell? ⟨b, 0, none⟩ = some (.slice (some ⟨g, 0, none⟩) L.length cap) := (hk1.cell (p := ⟨b, 0, none⟩) HB.out hbm).trans b0
    have e1 : w1.cell? ⟨b, 1, none⟩ = some (.map (some mb)) := (hk1.cell (p := ⟨b, 1, none⟩) HB.out hbm).trans b1
    have d1 : w1.cell? ⟨g, j * 2, none⟩ = some (.int .i64 xi) := (hk1.cell (p := ⟨g, _, none⟩) (HG.out.lt enc_I) hgm).trans d0
    have HG1 := Lib.hid (HG.out.drew.keeps enc_I hk1 hgm)
    have HK1 := Lib.hid ((HK.out.drew.mono (fun x e => Or.inl (b := x = mb) e)).trans (hk1.mono (fun x e => Or.inr e)))
    clear hk1 hgrow1 ho' b0 b1 c0 d0
    go_wp2_with fail
    go_still_tail 13, (by kernel_rfl)
    change wpList _ _ _ _ _ w1.drew
    have ho2 : w1.drew.ownsMap Try.prog 3 (plainElem Try.prog 3) mb (L.length + 1) _ := hown1
    clear hown1
    refine wpList_mapUpdate_own _ rfl _ _ _ 47 rfl 3 3 keyLaw Try.underlying47 _ mb _ _ rfl ho2 (by unfold maxLen; omega) _ _ _ rfl rfl HXi.out.key _ [] (plainElem_int Try.underlying3 (In64.nat (by omega)).wf) ?_
    intro w2 hown2 hgrow2
    have hk2 := keeps_grown hgrow2
    have HK2 := Lib.hid (HK1.out.drew.trans (hk2.mono (fun x e => Or.inr (a := x = g) e)))
    have HG2 := Lib.hid (HG1.out.drew.keeps enc_I hk2 hgm)
    have HO := Lib.hid hown2
    clear hk2 hgrow2 ho2 hown2 e0 e1 d1
    go_wp2_with fail
    go_end0
    refine ⟨rfl, HH.out.turn HK2.out (sw_perm L i j hi hj) HG2.out ⟨_, ?_, ?_, HSP.out.1⟩, HK2.out⟩
    · have HO' : w2.ownsMap Try.prog 3 (plainElem Try.prog 3) mb _ ((D.put (litI xj) (DataW.lit (litI i))).put (litI xi) (DataW.lit (litI j))) := HO.out
      have := own_size HO'
      rw [HSP.out.2, HSZ.out] at this
      rw [sw_len]; exact this
    · rw [sw_len, HSP.out.2, HSZ.out]
end
end Go.Proofs.Ytknhjbfhkfngeaa
