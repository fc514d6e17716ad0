/- The document's own Pack at every slice of handles that was there; no condition but those that each row names. -/
import Derived.Test.YtokplbfjpabolaaDoorHPack
namespace Go.Proofs.YtokplbfjpabolaaDoor
open Go.RowKit

theorem rpack_long (w : World) (v : Value) (zs : List Int) (h : Ints w v zs) (hn : 4096 < zs.length) :
    Calls Tryd.prog 28 #[v] w fun e w' => e = .returned (.tuple #[.string ⟨#[]⟩, .int .i64 3]) ∧ Below w.heap.size w w' := by
  obtain ⟨p, cap, rfl, hm, hc⟩ := h
  clear hc
  go_enter Tryd.func28, Tryd.ntmps28
  go_wp2_with fail
  go_ret2
  exact ⟨rfl, Below.refl _ _⟩

theorem news_one (w : World) (v : Value) (t : TypeId) : ∀ (j : Nat) x, [v][j]? = some x → (w.alloc (.cells #[v] t)).cell? ((⟨w.heap.size, 0, none⟩ : Addr).add j) = some x := by
  intro j x hj
  match j, hj with
  | 0, hj => simp at hj; subst hj; simp [Addr.add]
theorem six_all (h : Int) : (six h).take 6 = six h := rfl

set_option maxHeartbeats 8000000 in
set_option maxRecDepth 100000 in
theorem rpack_some (w : World) (v : Value) (zs : List Int) (h : Ints w v zs) (hn : zs.length ≤ 4096) (hpos : 0 < zs.length) :
    Calls Tryd.prog 28 #[v] w fun e w' => e = packV zs (.int .i64 20) (.int .i64 0) ∧ Below w.heap.size w w' := by
  obtain ⟨i0, hi, hz0, hz1, hz2⟩ := info_parts Tryd.info5
  obtain ⟨p, cap, rfl, hm, hc⟩ := h
  have HC := Lib.hid hc
  clear hc hm
  have HO0 := Lib.hid (show OwnB 5 w.heap.size w (.slice none 0 0) (packL (zs.take 0)) from ⟨rfl, .inl ⟨rfl, rfl⟩⟩)
  go_enter Tryd.func28, Tryd.ntmps28
  go_wp2_with fail
  go_loopw [4, 5, 6] (fun v i _ wr => ∃ (k cap : Nat) (q : Option Addr), k ≤ zs.length ∧ i = .int .i64 k ∧ v = .slice q (packL (zs.take k)).length cap ∧
      Hid (OwnB 5 w.heap.size wr (.slice q (packL (zs.take k)).length cap) (packL (zs.take k))) ∧ Hid (∀ z ∈ zs.take k, pk z) ∧ Below w.heap.size w wr) (fun _ i _ _ => zs.length - (intOf i).toNat)
  case atStart => exact ⟨0, 0, none, Nat.zero_le _, rfl, rfl, HO0, Lib.hid (by simp), Below.refl _ _⟩
  case round =>
    obtain ⟨k, cap', q, hk, rfl, rfl, HX, HP, hb⟩ := hrel
    by_cases hlt : k < zs.length
    · obtain ⟨x, hx⟩ : ∃ x, zs[k]? = some x := ⟨zs[k], List.getElem?_eq_getElem hlt⟩
      obtain ⟨b, off, rfl, hcell0⟩ := HC.out k x hx
      have hblk : b < w.heap.size := cell_lt hcell0
      have hcell : wr.cell? ⟨b, off + k, none⟩ = some (.int .i64 x) := (hb.cell (p := ⟨b, off + k, none⟩) hblk).trans hcell0
      have HXX := Lib.hid hx
      have HC0 := Lib.hid hcell0
      clear hx hcell0
      by_cases hpk : pk x
      · have hle : (packL (zs.take k)).length ≤ 65536 := by rw [packL_len, List.length_take]; omega
        have HP' := Lib.hid (pk_next HXX.out hpk HP.out)
        have HE : Hid (packL (zs.take k) ++ six x = packL (zs.take (k + 1))) := by unfold Hid; rw [take_next HXX.out, packL_snoc]
        have hcase : (x != 0) = false ∨ ((x != 0) = true ∧ okH x) := by
          rcases hpk with rfl | hok
          · exact .inl rfl
          · exact .inr ⟨by rw [bne_iff_ne]; exact okH_ne hok, hok⟩
        clear hpk
        have HV := Lib.hid (fun w (h : okH x) => rvalid_ok x w h)
        generalize packL (zs.take k) = ys at *
        rcases hcase with h0 | ⟨h0, hok⟩
        all_goals
          go_wp2_with (go_at_call 16; refine (HV.out _ (by assumption)).mono ?_; rintro e w1 ⟨rfl, rfl⟩)
          obtain ⟨wo, hwo⟩ : ∃ wo : World, wo = wr := ⟨_, rfl⟩
          subst hwo
          go_loopg [4, 6] 6 (fun kx v r wi => ∃ (j : Nat) (q : Option Addr) (cap : Nat), j + kx = 6 ∧ v = .slice q (ys ++ (six x).take j).length cap ∧ r = .int .i64 (5 - (j : Int)) ∧
            Hid (OwnB 5 w.heap.size wi (.slice q (ys ++ (six x).take j).length cap) (ys ++ (six x).take j)) ∧ Below w.heap.size w wi)
          case atStart => exact ⟨0, q, cap', rfl, by simp, rfl, by simpa using HX, hb⟩
          case round =>
            obtain ⟨j, q2, cap2, hj, rfl, rfl, HY, hb2⟩ := hrel
            have hlen : (ys ++ (six x).take j).length ≤ 65542 := by simp [six_length]; omega
            by_cases hj6 : j < 6
            · have hcell2 : wr.cell? ⟨b, off + k, none⟩ = some (.int .i64 x) := (hb2.cell (p := ⟨b, off + k, none⟩) hblk).trans HC0.out
              have HS := Lib.hid (six_take x j hj6)
              generalize hys : ys ++ (six x).take j = zz at *
              have HYY := Lib.hid hys
              clear hys hcell
              obtain ⟨g, rfl⟩ : ∃ g, gk = g + 1 := ⟨5 - j, by omega⟩
              have : j = 0 ∨ j = 1 ∨ j = 2 ∨ j = 3 ∨ j = 4 ∨ j = 5 := by omega
              rcases this with rfl | rfl | rfl | rfl | rfl | rfl
              · go_wp2_with (at_builtin; refine wpList_append_own _ rfl _ _ 63 rfl w.heap.size 5 i0 (.int .u8 0) 1 1 Tryd.underlying63 hi hz0 hz1 hz2 rfl (by decide) _ _ _ rfl (HY.out.alloc _) ⟨wr.heap.size, 0, none⟩ 1 1 [.int .u8 (x / 1099511627776 % 256)] rfl rfl (news_one wr _ _) (fun y hy => by simp at hy; subst hy; rfl) (by unfold maxLen; omega) (by omega) (by have := hb2.size; simp; omega) ?_)
                intro v' w2 hown' hgrow _
                have hown3 := ownB_byte _ (byteAt x (dv 0)) (by rw [byteAt_toNat]; rfl) hown'
                have hb3 : Below w.heap.size w w2 := (hb2.alloc hb2.size _).grown hgrow (by have := hb2.size; simp; omega) fun k hk => (HY.out.lt k hk).1
                clear hown' hgrow hb2
                obtain ⟨p', cap', rfl⟩ := ownB_shape0 hown3
                have HO' := Lib.hid hown3
                have HF : Hid (zz ++ [byteAt x (dv 0)] = ys ++ (six x).take (0 + 1)) := by unfold Hid; rw [HS.out, ← List.append_assoc, HYY.out]
                clear hown3
                go_wp2_with fail
                go_roundg g
                case measure => omega
                case rel => exact ⟨0 + 1, p', cap', by omega, by rw [HF.out], rfl, by rw [← HF.out]; exact HO', hb3⟩
              · go_wp2_with (at_builtin; refine wpList_append_own _ rfl _ _ 63 rfl w.heap.size 5 i0 (.int .u8 0) 1 1 Tryd.underlying63 hi hz0 hz1 hz2 rfl (by decide) _ _ _ rfl (HY.out.alloc _) ⟨wr.heap.size, 0, none⟩ 1 1 [.int .u8 (x / 4294967296 % 256)] rfl rfl (news_one wr _ _) (fun y hy => by simp at hy; subst hy; rfl) (by unfold maxLen; omega) (by omega) (by have := hb2.size; simp; omega) ?_)
                intro v' w2 hown' hgrow _
                have hown3 := ownB_byte _ (byteAt x (dv 1)) (by rw [byteAt_toNat]; rfl) hown'
                have hb3 : Below w.heap.size w w2 := (hb2.alloc hb2.size _).grown hgrow (by have := hb2.size; simp; omega) fun k hk => (HY.out.lt k hk).1
                clear hown' hgrow hb2
                obtain ⟨p', cap', rfl⟩ := ownB_shape0 hown3
                have HO' := Lib.hid hown3
                have HF : Hid (zz ++ [byteAt x (dv 1)] = ys ++ (six x).take (1 + 1)) := by unfold Hid; rw [HS.out, ← List.append_assoc, HYY.out]
                clear hown3
                go_wp2_with fail
                go_roundg g
                case measure => omega
                case rel => exact ⟨1 + 1, p', cap', by omega, by rw [HF.out], rfl, by rw [← HF.out]; exact HO', hb3⟩
              · go_wp2_with (at_builtin; refine wpList_append_own _ rfl _ _ 63 rfl w.heap.size 5 i0 (.int .u8 0) 1 1 Tryd.underlying63 hi hz0 hz1 hz2 rfl (by decide) _ _ _ rfl (HY.out.alloc _) ⟨wr.heap.size, 0, none⟩ 1 1 [.int .u8 (x / 16777216 % 256)] rfl rfl (news_one wr _ _) (fun y hy => by simp at hy; subst hy; rfl) (by unfold maxLen; omega) (by omega) (by have := hb2.size; simp; omega) ?_)
                intro v' w2 hown' hgrow _
                have hown3 := ownB_byte _ (byteAt x (dv 2)) (by rw [byteAt_toNat]; rfl) hown'
                have hb3 : Below w.heap.size w w2 := (hb2.alloc hb2.size _).grown hgrow (by have := hb2.size; simp; omega) fun k hk => (HY.out.lt k hk).1
                clear hown' hgrow hb2
                obtain ⟨p', cap', rfl⟩ := ownB_shape0 hown3
                have HO' := Lib.hid hown3
                have HF : Hid (zz ++ [byteAt x (dv 2)] = ys ++ (six x).take (2 + 1)) := by unfold Hid; rw [HS.out, ← List.append_assoc, HYY.out]
                clear hown3
                go_wp2_with fail
                go_roundg g
                case measure => omega
                case rel => exact ⟨2 + 1, p', cap', by omega, by rw [HF.out], rfl, by rw [← HF.out]; exact HO', hb3⟩
              · go_wp2_with (at_builtin; refine wpList_append_own _ rfl _ _ 63 rfl w.heap.size 5 i0 (.int .u8 0) 1 1 Tryd.underlying63 hi hz0 hz1 hz2 rfl (by decide) _ _ _ rfl (HY.out.alloc _) ⟨wr.heap.size, 0, none⟩ 1 1 [.int .u8 (x / 65536 % 256)] rfl rfl (news_one wr _ _) (fun y hy => by simp at hy; subst hy; rfl) (by unfold maxLen; omega) (by omega) (by have := hb2.size; simp; omega) ?_)
                intro v' w2 hown' hgrow _
                have hown3 := ownB_byte _ (byteAt x (dv 3)) (by rw [byteAt_toNat]; rfl) hown'
                have hb3 : Below w.heap.size w w2 := (hb2.alloc hb2.size _).grown hgrow (by have := hb2.size; simp; omega) fun k hk => (HY.out.lt k hk).1
                clear hown' hgrow hb2
                obtain ⟨p', cap', rfl⟩ := ownB_shape0 hown3
                have HO' := Lib.hid hown3
                have HF : Hid (zz ++ [byteAt x (dv 3)] = ys ++ (six x).take (3 + 1)) := by unfold Hid; rw [HS.out, ← List.append_assoc, HYY.out]
                clear hown3
                go_wp2_with fail
                go_roundg g
                case measure => omega
                case rel => exact ⟨3 + 1, p', cap', by omega, by rw [HF.out], rfl, by rw [← HF.out]; exact HO', hb3⟩
              · go_wp2_with (at_builtin; refine wpList_append_own _ rfl _ _ 63 rfl w.heap.size 5 i0 (.int .u8 0) 1 1 Tryd.underlying63 hi hz0 hz1 hz2 rfl (by decide) _ _ _ rfl (HY.out.alloc _) ⟨wr.heap.size, 0, none⟩ 1 1 [.int .u8 (x / 256 % 256)] rfl rfl (news_one wr _ _) (fun y hy => by simp at hy; subst hy; rfl) (by unfold maxLen; omega) (by omega) (by have := hb2.size; simp; omega) ?_)
                intro v' w2 hown' hgrow _
                have hown3 := ownB_byte _ (byteAt x (dv 4)) (by rw [byteAt_toNat]; rfl) hown'
                have hb3 : Below w.heap.size w w2 := (hb2.alloc hb2.size _).grown hgrow (by have := hb2.size; simp; omega) fun k hk => (HY.out.lt k hk).1
                clear hown' hgrow hb2
                obtain ⟨p', cap', rfl⟩ := ownB_shape0 hown3
                have HO' := Lib.hid hown3
                have HF : Hid (zz ++ [byteAt x (dv 4)] = ys ++ (six x).take (4 + 1)) := by unfold Hid; rw [HS.out, ← List.append_assoc, HYY.out]
                clear hown3
                go_wp2_with fail
                go_roundg g
                case measure => omega
                case rel => exact ⟨4 + 1, p', cap', by omega, by rw [HF.out], rfl, by rw [← HF.out]; exact HO', hb3⟩
              · go_wp2_with (at_builtin; refine wpList_append_own _ rfl _ _ 63 rfl w.heap.size 5 i0 (.int .u8 0) 1 1 Tryd.underlying63 hi hz0 hz1 hz2 rfl (by decide) _ _ _ rfl (HY.out.alloc _) ⟨wr.heap.size, 0, none⟩ 1 1 [.int .u8 (x % 256)] rfl rfl (news_one wr _ _) (fun y hy => by simp at hy; subst hy; rfl) (by unfold maxLen; omega) (by omega) (by have := hb2.size; simp; omega) ?_)
                intro v' w2 hown' hgrow _
                have hown3 := ownB_byte _ (byteAt x (dv 5)) (by rw [byteAt_toNat]; show x / 1 % 256 = _; omega) hown'
                have hb3 : Below w.heap.size w w2 := (hb2.alloc hb2.size _).grown hgrow (by have := hb2.size; simp; omega) fun k hk => (HY.out.lt k hk).1
                clear hown' hgrow hb2
                obtain ⟨p', cap', rfl⟩ := ownB_shape0 hown3
                have HO' := Lib.hid hown3
                have HF : Hid (zz ++ [byteAt x (dv 5)] = ys ++ (six x).take (5 + 1)) := by unfold Hid; rw [HS.out, ← List.append_assoc, HYY.out]
                clear hown3
                go_wp2_with fail
                go_roundg g
                case measure => omega
                case rel => exact ⟨5 + 1, p', cap', by omega, by rw [HF.out], rfl, by rw [← HF.out]; exact HO', hb3⟩
            · obtain rfl : j = 6 := by omega
              have HZ : Hid (ys ++ (six x).take 6 = packL (zs.take (k + 1))) := by unfold Hid; rw [six_all, HE.out]
              go_wp2_with fail
              go_roundw
              case rel => exact ⟨k + 1, cap2, q2, by omega, by go_num, by rw [HZ.out], by rw [← HZ.out]; exact HY, HP', hb2⟩
              case measure => simp [intOf]; omega
      · have hne : (x != 0) = true := by rw [bne_iff_ne]; exact fun e => hpk (.inl e)
        have hno : ¬ okH x := fun e => hpk (.inr e)
        have HN := Lib.hid hpk
        have HV := Lib.hid (fun w => rvalid_no x w hno)
        clear hpk hno
        go_wp2_with fail
        refine (HV.out _).mono ?_
        rintro e w1 ⟨rfl, rfl⟩
        go_wp2_with fail
        go_ret2
        exact ⟨(packV_no HXX.out HN.out).symm, hb⟩
    · have hk' : k = zs.length := by omega
      have hall : ∀ z ∈ zs, pk z := by have := HP.out; rw [List.take_of_length_le (by omega)] at this; exact this
      have HL := Lib.hid hall
      have HT := Lib.hid (show zs.take k = zs from List.take_of_length_le (by omega))
      obtain ⟨g, c2, hg⟩ := ownB_shape HX.out (by rw [packL_len, List.length_take]; omega)
      obtain ⟨rfl, rfl⟩ : q = some ⟨g, 0, none⟩ ∧ cap' = c2 := by injection hg with a1 a2 a3; exact ⟨a1, a3⟩
      have hcv := run_convert_bytes_back (P := Tryd.prog) wr 63 9 5 ⟨g, 0, none⟩ cap' _ Tryd.underlying63 Tryd.underlying5 Tryd.underlying9 (ownB_cells HX.out)
      clear hk' hall hg
      go_wp2_with fail
      go_ret2
      exact ⟨(congrArg (fun l => Ending.returned (.tuple #[.string ⟨(packL l).toArray⟩, .int .i64 0])) HT.out).trans (packV_ok HL.out).symm, hb⟩

set_option maxRecDepth 100000 in
theorem rpack_nil (w : World) (v : Value) (h : Ints w v []) :
    Calls Tryd.prog 28 #[v] w fun e w' => e = .returned (.tuple #[.string ⟨#[]⟩, .int .i64 0]) ∧ Below w.heap.size w w' := by
  obtain ⟨p, cap, rfl, hm, hc⟩ := h
  clear hc hm
  have hcv : ∀ w, (convert 63 9 (.slice none 0 0)).run Tryd.prog w = .ok (.string ⟨#[]⟩) w := fun _ => by kernel_rfl
  go_enter Tryd.func28, Tryd.ntmps28
  go_wp2_with fail
  refine wp_loop_rounds 1 ?_
  rw [rounds_succ]
  go_wp2
  go_ret2
  exact ⟨rfl, Below.refl _ _⟩

theorem rpack_ints (w : World) (v : Value) (zs : List Int) (h : Ints w v zs) (hn : zs.length ≤ 4096) :
    Calls Tryd.prog 28 #[v] w fun e w' => e = packV zs (.int .i64 20) (.int .i64 0) ∧ Below w.heap.size w w' := by
  cases zs with
  | nil =>
    rw [packV_ok (by intro z hz; simp at hz)]
    exact rpack_nil w v h
  | cons z r => exact rpack_some w v (z :: r) h hn (by simp)
end Go.Proofs.YtokplbfjpabolaaDoor
