/- The walk of the law HandleBack: it answers true for every slice of handles; it writes nothing that was there. -/
import Derived.Test.YtokplbfjpabolaaDoorLawPacks
namespace Go.Proofs.YtokplbfjpabolaaDoor
open Go.RowKit

def goods (zs : List Int) : List Int := zs.filter fun z => decide (okH z)
theorem goods_ok {zs : List Int} {k : Nat} {x : Int} (h : zs[k]? = some x) (hx : okH x) : goods (zs.take (k + 1)) = goods (zs.take k) ++ [x] := by
  rw [take_next h]; unfold goods; rw [List.filter_append]; simp [hx]
theorem goods_no {zs : List Int} {k : Nat} {x : Int} (h : zs[k]? = some x) (hx : ¬ okH x) : goods (zs.take (k + 1)) = goods (zs.take k) := by
  rw [take_next h]; unfold goods; rw [List.filter_append]; simp [hx]
theorem goods_len (zs : List Int) : (goods zs).length ≤ zs.length := List.length_filter_le _ _
theorem goods_all (zs : List Int) : ∀ z ∈ goods zs, okH z := fun z hz => by
  unfold goods at hz; rw [List.mem_filter] at hz; simpa using hz.2

/-- What is the call's own stays so, where only new blocks came. -/
theorem ownI_below {E base : Nat} {w w' : World} {v : Value} {xs : List Int} (h : OwnI E base w v xs) (hb : Below w.heap.size w w') : OwnI E base w' v xs := by
  unfold OwnI at *
  exact World.ownsRow.kept (row := none) h ⟨hb.os, hb.tape, hb.output, hb.size, fun i hi _ => hb.block i hi⟩ (Classical.em _)
theorem bnext2 {w a b : World} (h : Below w.heap.size w a) (k : Below a.heap.size a b) : Below w.heap.size w b := h.trans (k.mono h.size)
theorem packL_drop : ∀ (gs : List Int) (j : Nat), (packL gs).drop (6 * j) = packL (gs.drop j)
  | [], j => by simp [packL]
  | g :: r, 0 => by simp
  | g :: r, j + 1 => by
    have e : packL (g :: r) = six g ++ packL r := rfl
    rw [e, List.drop_append, show (six g).drop (6 * (j + 1)) = [] from List.drop_of_length_le (by rw [six_length]; omega), six_length, List.nil_append, show 6 * (j + 1) - 6 = 6 * j by omega, packL_drop r j]
    rfl
theorem nAt_pack {gs : List Int} (h : ∀ z ∈ gs, okH z) {j : Nat} {z : Int} (hj : gs[j]? = some z) : nAt (packL gs) j = z := by
  have hlt : j < gs.length := (List.getElem?_eq_some_iff.1 hj).1
  have hz : gs[j] = z := (List.getElem?_eq_some_iff.1 hj).2
  have hok := okH_bd (h z (hz ▸ List.getElem_mem hlt))
  unfold nAt
  rw [packL_drop, List.drop_eq_getElem_cons hlt, hz]
  have e : packL (z :: gs.drop (j + 1)) = six z ++ packL (gs.drop (j + 1)) := rfl
  rw [e, List.take_append, show (six z).take 6 = six z from rfl, six_length]
  simp only [Nat.sub_self, List.take_zero, List.append_nil]
  exact num_six (by omega) (by omega)
theorem unF_pack {gs : List Int} (h : ∀ z ∈ gs, okH z) : unF (packL gs) gs.length = gs := by
  refine List.ext_getElem (by rw [unF_len]) fun j h1 h2 => ?_
  simp only [unF, List.getElem_map, List.getElem_range]
  exact nAt_pack h (List.getElem?_eq_getElem h2)

theorem pack_goods (gs : List Int) (h : ∀ z ∈ gs, okH z) (hn : gs.length ≤ 4096) (w : World) (v : Value) (hv : Ints w v gs) :
    Calls Tryd.prog 27 #[v] w fun e w' => e = .returned (.tuple #[.string ⟨(packL gs).toArray⟩, .nilIface]) ∧ Below w.heap.size w w' := by
  have := pack_ints w v gs hv hn
  rw [packV_ok fun z hz => .inr (h z hz)] at this
  exact this
theorem unpack_goods (gs : List Int) (h : ∀ z ∈ gs, okH z) (hn : gs.length ≤ 4096) (w : World) :
    Calls Tryd.prog 29 #[.string ⟨(packL gs).toArray⟩] w fun e w' => ∃ v, e = .returned (.tuple #[v, .nilIface]) ∧ Ints w' v gs ∧ Below w.heap.size w w' := by
  have hl : (⟨(packL gs).toArray⟩ : ByteArray).size = 6 * gs.length := by
    have : (⟨(packL gs).toArray⟩ : ByteArray).data.toList.length = (⟨(packL gs).toArray⟩ : ByteArray).size := Array.length_toList
    rw [← this, list_of_ba, packL_len]
  have hall : ∀ j, j < gs.length → pk (nAt (packL gs) j) := fun j hj => by
    rw [nAt_pack h (List.getElem?_eq_getElem hj)]
    exact .inr (h _ (List.getElem_mem hj))
  refine (unpack_any _ gs.length w (by omega) hl).mono ?_
  rintro e w' ⟨v, he, hi, hb⟩
  rw [list_of_ba, if_pos hall] at he hi
  rw [unF_pack h] at hi
  exact ⟨v, he, hi, hb⟩

theorem back_long (w : World) (v : Value) (zs : List Int) (hg : LaidAt w) (hv : Ints w v zs) (hn : 4096 < zs.length) :
    Calls Tryd.prog 8 #[v] w fun e w' => e = .returned (.bool true) ∧ Below w.heap.size w w' := by
  obtain ⟨p, cap, rfl, hm, hc⟩ := hv
  have JG := Lib.hid hg
  clear hc hg
  go_enter Tryd.func8, Tryd.ntmps8
  go_wp2_with fail
  refine (works_any _ JG.out).mono ?_
  rintro e w1 ⟨rfl, hb1⟩
  go_wp2_with fail
  go_ret
  exact ⟨rfl, hb1⟩

set_option maxHeartbeats 8000000 in
set_option maxRecDepth 100000 in
theorem back_short (w : World) (v : Value) (zs : List Int) (hg : LaidAt w) (hv : Ints w v zs) (hn : zs.length ≤ 4096) :
    Calls Tryd.prog 8 #[v] w fun e w' => e = .returned (.bool true) ∧ Below w.heap.size w w' := by
  obtain ⟨i0, hi, hz0, hz1, hz2⟩ := info_parts Tryd.info22
  obtain ⟨p, cap, rfl, hm, hc⟩ := hv
  have JG := Lib.hid hg
  have HC := Lib.hid hc
  have hnd : decide (4096 < (zs.length : Int)) = false := decide_eq_false (by omega)
  have HO0 := Lib.hid (show OwnI 22 w.heap.size w (.slice none 0 0) (goods (zs.take 0)) from ⟨rfl, .inl ⟨rfl, rfl⟩⟩)
  clear hc hg hm
  go_enter Tryd.func8, Tryd.ntmps8
  go_wp2_with fail
  go_loopw [3, 4] (fun v i wr => ∃ (k cap : Nat) (q : Option Addr), k ≤ zs.length ∧ i = .int .i64 k ∧ v = .slice q (goods (zs.take k)).length cap ∧
      Hid (OwnI 22 w.heap.size wr (.slice q (goods (zs.take k)).length cap) (goods (zs.take k))) ∧ Below w.heap.size w wr) (fun _ i _ => zs.length - (intOf i).toNat)
  case atStart => exact ⟨0, 0, none, Nat.zero_le _, rfl, rfl, HO0, Below.refl _ _⟩
  case round =>
    obtain ⟨k, cap', q, hk, rfl, rfl, HX, hb⟩ := hrel
    by_cases hlt : k < zs.length
    · obtain ⟨x, hx⟩ : ∃ x, zs[k]? = some x := ⟨zs[k], List.getElem?_eq_getElem hlt⟩
      obtain ⟨b, off, rfl, hcell0⟩ := HC.out k x hx
      have hblk : b < w.heap.size := cell_lt hcell0
      have hcell : wr.cell? ⟨b, off + k, none⟩ = some (.int .i64 x) := (hb.cell (p := ⟨b, off + k, none⟩) hblk).trans hcell0
      have HXX := Lib.hid hx
      have HC0 := Lib.hid hcell0
      have hgl : (goods (zs.take k)).length ≤ 4096 := Nat.le_trans (goods_len _) (by rw [List.length_take]; omega)
      clear hx hcell0
      by_cases hok : okH x
      · have HE : Hid (goods (zs.take k) ++ [x] = goods (zs.take (k + 1))) := (goods_ok HXX.out hok).symm
        have HV := Lib.hid (fun w => valid_ok x w hok)
        have HT := Lib.hid (text_any x)
        have HR := Lib.hid (fun w hg => read_is ⟨(textL x).toArray⟩ x (.inr hok) (list_of_ba _) w hg)
        have HGn := Lib.hid (fun w => gen_ok x w hok)
        obtain ⟨bd1, bd2⟩ := okH_bd hok
        generalize goods (zs.take k) = ys at *
        generalize textL x = tl at *
        by_cases hlast : gOf x = 1023
        · have HN := Lib.hid (fun w => next_room x w hok hlast)
          rw [hlast] at HGn
          clear hlast hok
          go_wp2_with fail
          refine (HV.out _).mono ?_
          rintro e w1 ⟨rfl, rfl⟩
          go_wp2_with (at_builtin; refine wpList_append_own _ rfl _ _ 40 rfl w.heap.size 22 i0 (.int .i64 0) 1 8 Tryd.underlying40 hi hz0 hz1 hz2 rfl (by decide) _ _ _ rfl (HX.out.alloc _) ⟨wr.heap.size, 0, none⟩ 1 1 [.int .i64 x] rfl rfl (news_one wr _ _) (fun y hy => by simp at hy; subst hy; rfl) (by unfold maxLen; omega) (by omega) (by have := hb.size; simp; omega) ?_)
          intro v' w2 hown' hgrow _
          have hown3 := ownI_next _ hown'
          have hb3 : Below w.heap.size w w2 := (hb.alloc hb.size _).grown hgrow (by have := hb.size; simp; omega) fun k hk => (HX.out.lt k hk).1
          clear hown' hgrow hb hcell
          obtain ⟨p', cap2, rfl⟩ := ownI_shape0 hown3
          have HO' := Lib.hid hown3
          have hcell2 : w2.cell? ⟨b, off + k, none⟩ = some (.int .i64 x) := (hb3.cell (p := ⟨b, off + k, none⟩) hblk).trans HC0.out
          clear hown3
          go_wp2_with fail
          refine (HT.out _ (JG.out.below hb3)).mono ?_
          rintro e w3 ⟨rfl, hb4⟩
          have hB4 := bnext hb3 hb4
          go_wp2_with fail
          refine (HR.out _ (JG.out.below hB4)).mono ?_
          rintro e w4 ⟨rfl, hb5⟩
          have hB5 := bnext hB4 hb5
          have hcell4 : w4.cell? ⟨b, off + k, none⟩ = some (.int .i64 x) := (hB5.cell (p := ⟨b, off + k, none⟩) hblk).trans HC0.out
          clear hcell2
          go_wp2_with fail
          refine (HN.out _).mono ?_
          rintro e w5 ⟨rfl, rfl⟩
          go_wp2_with fail
          refine (HGn.out _).mono ?_
          rintro e w5 ⟨rfl, rfl⟩
          go_wp2_with fail
          refine (num_errno 30 _).mono ?_
          rintro e w5 ⟨rfl, rfl⟩
          go_wp2_with fail
          have hst : OwnI 22 w.heap.size w4 (.slice p' (ys ++ [x]).length cap2) (ys ++ [x]) := ownI_below HO'.out (bnext2 hb4 hb5)
          have HST := Lib.hid hst
          clear hst
          go_roundw
          case rel => exact ⟨k + 1, cap2, p', by omega, by go_num, by rw [← HE.out, List.length_append]; rfl, by rw [← HE.out]; exact HST, hB5⟩
          case measure => simp [intOf]; omega
        · have hl' : gOf x < 1023 := by have := hok.2.2.2.2.2; omega
          have HN := Lib.hid (fun w => next_ok x w hok hl')
          have HV2 := Lib.hid (fun w => valid_ok (x + 1) w (next_parts hok hl').1)
          have hgb : (gOf x == 1023) = false := by rw [beq_eq_false_iff_ne]; exact hlast
          generalize gOf x = gx at *
          clear hlast hok hl'
          go_wp2_with fail
          refine (HV.out _).mono ?_
          rintro e w1 ⟨rfl, rfl⟩
          go_wp2_with (at_builtin; refine wpList_append_own _ rfl _ _ 40 rfl w.heap.size 22 i0 (.int .i64 0) 1 8 Tryd.underlying40 hi hz0 hz1 hz2 rfl (by decide) _ _ _ rfl (HX.out.alloc _) ⟨wr.heap.size, 0, none⟩ 1 1 [.int .i64 x] rfl rfl (news_one wr _ _) (fun y hy => by simp at hy; subst hy; rfl) (by unfold maxLen; omega) (by omega) (by have := hb.size; simp; omega) ?_)
          intro v' w2 hown' hgrow _
          have hown3 := ownI_next _ hown'
          have hb3 : Below w.heap.size w w2 := (hb.alloc hb.size _).grown hgrow (by have := hb.size; simp; omega) fun k hk => (HX.out.lt k hk).1
          clear hown' hgrow hb hcell
          obtain ⟨p', cap2, rfl⟩ := ownI_shape0 hown3
          have HO' := Lib.hid hown3
          have hcell2 : w2.cell? ⟨b, off + k, none⟩ = some (.int .i64 x) := (hb3.cell (p := ⟨b, off + k, none⟩) hblk).trans HC0.out
          clear hown3
          go_wp2_with fail
          refine (HT.out _ (JG.out.below hb3)).mono ?_
          rintro e w3 ⟨rfl, hb4⟩
          have hB4 := bnext hb3 hb4
          go_wp2_with fail
          refine (HR.out _ (JG.out.below hB4)).mono ?_
          rintro e w4 ⟨rfl, hb5⟩
          have hB5 := bnext hB4 hb5
          have hcell4 : w4.cell? ⟨b, off + k, none⟩ = some (.int .i64 x) := (hB5.cell (p := ⟨b, off + k, none⟩) hblk).trans HC0.out
          clear hcell2
          go_wp2_with fail
          refine (HN.out _).mono ?_
          rintro e w5 ⟨rfl, rfl⟩
          go_wp2_with fail
          refine (HGn.out _).mono ?_
          rintro e w5 ⟨rfl, rfl⟩
          go_wp2_with fail
          refine (num_nil _).mono ?_
          rintro e w5 ⟨rfl, rfl⟩
          go_wp2_with fail
          refine (HV2.out _).mono ?_
          rintro e w5 ⟨rfl, rfl⟩
          go_wp2_with fail
          have hst : OwnI 22 w.heap.size w4 (.slice p' (ys ++ [x]).length cap2) (ys ++ [x]) := ownI_below HO'.out (bnext2 hb4 hb5)
          have HST := Lib.hid hst
          clear hst
          go_roundw
          case rel => exact ⟨k + 1, cap2, p', by omega, by go_num, by rw [← HE.out, List.length_append]; rfl, by rw [← HE.out]; exact HST, hB5⟩
          case measure => simp [intOf]; omega
      · have HE : Hid (goods (zs.take k) = goods (zs.take (k + 1))) := (goods_no HXX.out hok).symm
        have HV := Lib.hid (fun w => valid_no x w hok)
        clear hok
        go_wp2_with fail
        refine (HV.out _).mono ?_
        rintro e w1 ⟨rfl, rfl⟩
        go_wp2_with fail
        go_roundw
        case rel => exact ⟨k + 1, cap', q, by omega, by go_num, by rw [HE.out], by rw [← HE.out]; exact HX, hb⟩
        case measure => simp [intOf]; omega
    · have HT := Lib.hid (show zs.take k = zs from List.take_of_length_le (by omega))
      have hi2 := Lib.hid (ownI_ints HX.out (by have := goods_len (zs.take k); rw [List.length_take] at this; omega))
      have hall := goods_all (zs.take k)
      have hgl : (goods (zs.take k)).length ≤ 4096 := Nat.le_trans (goods_len _) (by rw [List.length_take]; omega)
      have HP := Lib.hid (pack_goods _ hall hgl)
      have HU := Lib.hid (unpack_goods _ hall hgl)
      have hpl := packL_len (goods (zs.take k))
      have HPL : Hid (((packL (goods (zs.take k))).length : Int) = 6 * ((goods (zs.take k)).length : Int)) := by unfold Hid; omega
      clear hall hpl
      generalize goods (zs.take k) = ys at *
      generalize packL ys = pl at *
      have hpl := HPL.out
      go_wp2_with fail
      refine (HP.out _ _ hi2.out).mono ?_
      rintro e w1 ⟨rfl, hb1⟩
      go_wp2_with fail
      refine (HU.out _).mono ?_
      rintro e w2 ⟨v2, rfl, hi3, hb2⟩
      have H3 := Lib.hid hi3
      clear hi3
      go_wp2_with fail
      refine (same_true _ _ _ ys H3.out (hi2.out.below (bnext hb1 hb2))).mono ?_
      rintro e w3 ⟨rfl, hb3⟩
      have hB := bnext (bnext (bnext hb hb1) hb2) hb3
      go_wp2_with fail
      refine (works_any _ (JG.out.below hB)).mono ?_
      rintro e w4 ⟨rfl, hb4⟩
      go_wp2_with fail
      go_ret
      exact ⟨rfl, bnext hB hb4⟩

theorem back_any (w : World) (v : Value) (zs : List Int) (hg : LaidAt w) (hv : Ints w v zs) :
    Calls Tryd.prog 8 #[v] w fun e w' => e = .returned (.bool true) ∧ Below w.heap.size w w' := by
  by_cases hn : zs.length ≤ 4096
  · exact back_short w v zs hg hv hn
  · exact back_long w v zs hg hv (by omega)
end Go.Proofs.YtokplbfjpabolaaDoor
