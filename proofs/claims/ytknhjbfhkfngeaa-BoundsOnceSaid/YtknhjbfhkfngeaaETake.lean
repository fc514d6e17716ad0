/- The program's take of a heap: an entry goes; no condition but those that each row names. -/
import Derived.Test.YtknhjbfhkfngeaaEDel
namespace Go.Proofs.Ytknhjbfhkfngeaa
open Go.RowKit Go.Maps Hp

section
variable {α : Type} {enc : α → Value} {T E : TypeId} {B : Nat} {w : World} {L : List (Int × α)} {b g cap mb : Nat}
/-- The last entry gone. -/
theorem HW.shrunk {w3 : World} (h : HW enc T E B w L b g cap mb) (hk : Keeps (fun x => x = g ∨ x = mb) w w3) {m : Nat} (hm : L.length = m + 1) (hr : ERow enc E w3 (L.take m) g cap) (hp : Places w3 mb (L.take m)) :
    HW enc T E B (w3.setCell ⟨b, 0, none⟩ (.slice (some ⟨g, 0, none⟩) m cap)) (L.take m) b g cap mb := by
  have hb := (hk.block b h.lt (by rintro (e | e); exact h.bg e; exact h.bm e)).trans h.blk
  have hl : (L.take m).length = m := by simp; omega
  have hk1 : Keeps (fun x => x = b) w3 (w3.setCell ⟨b, 0, none⟩ (.slice (some ⟨g, 0, none⟩) m cap)) := (Keeps.refl _ _).setCell _ _ (.inl rfl)
  refine ⟨?_, hr.keeps enc hk1 (fun e => h.bg e.symm), by have := h.hn; omega, h.hc, hp.keeps hk1 (fun e => h.bm e.symm), h.hb, h.hg, h.hm, h.bg, h.bm, h.gm, fun e he => h.ids e (List.mem_of_mem_take he), by have := h.n4; omega⟩
  rw [heap_setCell_same _ _ _ _ _ _ hb, hl]; rfl
variable [Inhabited α]
theorem sw_last {p m : Nat} (hm : L.length = m + 1) (hp : p < L.length) : L.Perm (at' L p :: (sw L p m).take m) := by
  have h1 := (sw_perm L p m hp (by omega)).symm
  have h2 : sw L p m = (sw L p m).take m ++ [at' L p] := by
    have hl : (sw L p m).length = m + 1 := by rw [sw_len, hm]
    have := List.take_append_getElem (l := sw L p m) (i := m) (by omega)
    rw [← at_get (by omega), at_sw _ _ _ hp (by omega), swf_j] at this
    rw [this, List.take_of_length_le (by omega)]
  rw [h2] at h1
  exact h1.trans List.perm_append_comm
theorem sw_last_fix {kc : α → α → Int} (C : Cmp kc) {p m : Nat} (hm : L.length = m + 1) (hp : p < m) (hh : Heap (ahB kc) (at' L) L.length) : Fix (ahB kc) (at' ((sw L p m).take m)) ((sw L p m).take m).length p := by
  have hl : ((sw L p m).take m).length = m := by simp [sw_len]; omega
  rw [hl]
  refine fix_of C.ord (hh.shorter (by omega)) (fun k hk hne => ?_) hp
  rw [at_take _ _ _ hk, at_sw _ _ _ (by omega) (by omega), swf_o _ hne (by omega)]
theorem sw_last_heap {kc : α → α → Int} {m : Nat} (hm : L.length = m + 1) (hh : Heap (ahB kc) (at' L) L.length) : Heap (ahB kc) (at' ((sw L m m).take m)) ((sw L m m).take m).length := by
  have hl : ((sw L m m).take m).length = m := by simp [sw_len]; omega
  rw [hl]
  refine heap_congr (hh.shorter (by omega)) (fun k hk => ?_)
  rw [at_take _ _ _ hk, at_sw _ _ _ (by omega) (by omega), swf_o _ (by omega) (by omega)]
/-- An entry has gone. -/
def TakeEnd (kc : α → α → Int) (enc : α → Value) (T E : TypeId) (B : Nat) (w : World) (L : List (Int × α)) (b g cap mb p : Nat) (w' : World) : Prop :=
  ∃ L', HW enc T E B w' L' b g cap mb ∧ Heap (ahB kc) (at' L') L'.length ∧ L.Perm (at' L p :: L') ∧ Keeps (fun x => x = b ∨ x = g ∨ x = mb) w w'
end
section
variable {B : Nat} {w : World} {L : List (Int × Int)} {b g cap mb : Nat}
set_option maxHeartbeats 2000000 in
set_option maxRecDepth 100000 in
theorem take_I (h : HW enc_I HT_I NT_I B w L b g cap mb) (hh : Heap (ahB kc_I) (at' L) L.length) (p : Nat) (hp : p < L.length) :
    Calls Try.prog 21 #[.pointer (some ⟨b, 0, none⟩), .int .i64 p] w (fun e w' => e = .returned (.tuple #[]) ∧ TakeEnd kc_I enc_I HT_I NT_I B w L b g cap mb p w') := by
  obtain ⟨m, hm⟩ : ∃ m, L.length = m + 1 := ⟨L.length - 1, by omega⟩
  have n4 := h.n4
  have HH := Lib.hid h
  have HS := Lib.hid (swap_I h p m hp (by omega) p m rfl rfl)
  have f0 := h.len0_I hm
  have HPerm := Lib.hid (sw_last hm hp)
  have HHp := Lib.hid hh
  have hpm : p ≤ m := by omega
  have hm4 : m + 1 ≤ 4096 := by omega
  have HM := Lib.hid hm
  have HP := Lib.hid hp
  clear h hh hm n4 hp
  go_enter Try.func21, Try.ntmps21
  go_wp2_with fail
  refine HS.out.mono ?_
  rintro e w1 ⟨rfl, hw1, hk1⟩
  have hl1 : (sw L p m).length = m + 1 := by rw [sw_len, HM.out]
  have HW1 := Lib.hid hw1
  have b0 := hw1.len0_I hl1
  have b1 := hw1.f1
  have c0 := (hw1.row.cells _ m (by omega)).1
  have hid : In64 (sw L p m)[m].1 := hw1.ids _ (List.getElem_mem _)
  obtain ⟨D, ho, hs, hsp⟩ := hw1.mp
  rcases spec_last (ho.tidy keyLaw) hsp hl1 with hsl | hsl
  · have HSL := Lib.hid hsl
    obtain ⟨x, hx⟩ : ∃ x, x = (sw L p m)[m].1 := ⟨_, rfl⟩
    rw [← hx] at c0 hid HSL
    have HID := Lib.hid hid
    have HK1 := Lib.hid hk1
    have hlt := hw1.lt
    clear hw1 hk1 hl1 hx hs hsp hsl hid f0 HS
    have mi : (m : Int) < (m : Int) + 1 := by omega
    have mi0 : (0 : Int) ≤ (m : Int) := by omega
    have mi2 : m < m + 1 := by omega
    go_wp2_with fail
    go_still_tail 12, (by kernel_rfl)
    change wpList _ _ _ _ _ w1.drew
    have ho' : w1.drew.ownsMap Try.prog 3 (plainElem Try.prog 3) mb _ D := ho
    clear ho
    refine wpList_delete_own _ rfl _ _ 47 3 rfl 3 keyLaw Try.underlying47 _ mb _ D rfl ho' _ _ rfl HID.out.key ?_
    intro w2 hown2 hturn2
    have hk2 := keeps_turned hturn2
    have hbm := HW1.out.bm
    have hgm := HW1.out.gm
    have e0 : w2.cell? ⟨b, 0, none⟩ = some (.slice (some ⟨g, 0, none⟩) (m + 1) cap) := (hk2.cell (p := ⟨b, 0, none⟩) hlt hbm).trans b0
    have hr2 := HW1.out.row.drew.keeps enc_I hk2 hgm
    have HD := Lib.hid (delete_I w2 B g cap (m + 1) m (m + 1) rfl (sw L p m) (by rw [sw_len, HM.out]) (by omega) hm4 (by have := hr2.own enc_I HW1.out.hg HW1.out.hn HW1.out.hc; rwa [sw_len, HM.out] at this))
    have HO2 := Lib.hid hown2
    have HK2 := Lib.hid hk2
    have hlt2 : b < w2.heap.size := Nat.lt_of_lt_of_le hlt hk2.size
    have hfz2 : w2.frozen? ⟨b, 0, none⟩ = false := by
      have := (hk2.block b hlt (by simpa using hbm)).trans HW1.out.blk
      exact frozen_of_row _ _ _ _ _ this
    clear hturn2 hk2 ho' b0 b1 c0 hown2 hr2 hlt
    go_wp2_with fail
    refine HD.out.mono ?_
    rintro e w3 ⟨rfl, hown3, hk3⟩
    have hbg := HW1.out.bg
    have e3 : w3.cell? ⟨b, 0, none⟩ = some (.slice (some ⟨g, 0, none⟩) (m + 1) cap) := (hk3.cell (p := ⟨b, 0, none⟩) hlt2 hbg).trans e0
    have z3 : w3.frozen? ⟨b, 0, none⟩ = false := by
      have := (HK2.out.block b HW1.out.lt (by simpa using HW1.out.bm)).trans HW1.out.blk
      exact frozen_of_row _ _ _ _ _ ((hk3.block b hlt2 hbg).trans this)
    have hE : (sw L p m).eraseIdx m = (sw L p m).take m := by
      rw [List.eraseIdx_eq_take_drop_succ, List.drop_of_length_le (by rw [sw_len, HM.out]; omega), List.append_nil]
    rw [hE] at hown3
    have hl3 : ((sw L p m).take m).length = m := by have := HM.out; simp [sw_len]; omega
    have hr3 := (ERow.of_own enc_I (n := m) hl3 hown3).1
    have hpl2 : Places w2 mb ((sw L p m).take m) := ⟨_, by have := own_size HO2.out; rw [HSL.out.2] at this; rw [hl3]; exact this, by rw [HSL.out.2, hl3], HSL.out.1⟩
    have hpl3 := hpl2.keeps hk3 (fun e => HW1.out.gm e.symm)
    have hkk : Keeps (fun x => x = g ∨ x = mb) w1 w3 := (((Keeps.refl (fun x => x = g ∨ x = mb) w1).drew).trans (HK2.out.mono (fun _ => .inr))).trans (hk3.mono (fun _ => .inl))
    have HWS := Lib.hid (HW1.out.shrunk hkk (by rw [sw_len, HM.out]) hr3 hpl3)
    have HKK := Lib.hid (show Keeps (fun x => x = b ∨ x = g ∨ x = mb) w (w3.setCell ⟨b, 0, none⟩ (.slice (some ⟨g, 0, none⟩) m cap)) from ((HK1.out.trans hkk).mono (fun _ => Or.inr)).setCell _ _ (.inl (.inl rfl)))
    clear hk3 hE hl3 hown3 hr3 hpl2 hpl3 hkk e0 HD hbg
    by_cases hlast : p < m
    · have HF := Lib.hid (settle_I HWS.out p (by have := HM.out; simp [sw_len]; omega) (sw_last_fix cmp_I HM.out hlast HHp.out))
      go_wp2_with fail
      refine HF.out.mono ?_
      rintro e w4 ⟨rfl, L4, hm4, hh4⟩
      have HE := Lib.hid (show TakeEnd kc_I enc_I HT_I NT_I B w L b g cap mb p w4 from ⟨L4, hm4.hw, by rw [hm4.perm.length_eq]; exact hh4, HPerm.out.trans (List.Perm.cons _ hm4.perm.symm), HKK.out.trans (hm4.keeps.mono (fun _ => .inr))⟩)
      clear hm4 hh4
      go_wp2_with fail
      go_end0
      exact ⟨rfl, HE.out⟩
    · obtain rfl : p = m := by omega
      clear hlast
      go_wp2_with fail
      go_end0
      exact ⟨rfl, _, HWS.out, sw_last_heap HM.out HHp.out, HPerm.out, HKK.out⟩
  · exact absurd hs hsl
end
end Go.Proofs.Ytknhjbfhkfngeaa
