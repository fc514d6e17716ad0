/- The walk of the law SlackRound: it answers true whatever the numbers; no condition. -/
import Derived.Test.YtedgchafligndaaJKJRndW
import Derived.Deep.CutBlock
namespace Go.Proofs.Ytedgchafligndaa
open Go.RowKit Tsk

theorem rnd_many (a : Int) : wrap64 (a.tmod 15 + 15) = a.tmod 15 + 15 ∧ wrap64 ((a.tmod 15 + 15).tmod 15 + 1) = (a.tmod 15 + 15).tmod 15 + 1 ∧ ∃ m : Nat, (a.tmod 15 + 15).tmod 15 + 1 = (m : Int) ∧ 1 ≤ m ∧ m ≤ 15 := by
  have h1 : (a.tmod 15).natAbs < 15 := by
    have := Int.natAbs_tmod a 15
    rw [this]
    exact Nat.mod_lt _ (by decide)
  have h2 : 0 ≤ a.tmod 15 + 15 := by omega
  have h3 := Int.tmod_nonneg 15 h2
  have h4 := Int.tmod_lt_of_pos (a.tmod 15 + 15) (show (0 : Int) < 15 by decide)
  refine ⟨by unfold wrap64; omega, by unfold wrap64; omega, ((a.tmod 15 + 15).tmod 15 + 1).toNat, by omega, by omega, by omega⟩
theorem rnd_prio (a : Int) : wrap64 (a.tmod 31 + 31) = a.tmod 31 + 31 ∧ 0 ≤ (a.tmod 31 + 31).tmod 31 ∧ (a.tmod 31 + 31).tmod 31 ≤ 30 := by
  have h1 : (a.tmod 31).natAbs < 31 := by
    have := Int.natAbs_tmod a 31
    rw [this]
    exact Nat.mod_lt _ (by decide)
  have h2 : 0 ≤ a.tmod 31 + 31 := by omega
  have h3 := Int.tmod_nonneg 31 h2
  have h4 := Int.tmod_lt_of_pos (a.tmod 31 + 31) (show (0 : Int) < 31 by decide)
  exact ⟨by unfold wrap64; omega, h3, by omega⟩
theorem rnd_first (a : Int) (m : Nat) (hm : 1 ≤ m ∧ m ≤ 15) : wrap64 (a.tmod m + m) = a.tmod m + m ∧ ∃ f : Nat, (a.tmod m + m).tmod m = (f : Int) ∧ f < m := by
  have h1 : (a.tmod m).natAbs < m := by
    have := Int.natAbs_tmod a m
    rw [this]
    exact Nat.mod_lt _ (by simp; omega)
  have h2 : 0 ≤ a.tmod m + m := by omega
  have h3 := Int.tmod_nonneg (m : Int) h2
  have h4 := Int.tmod_lt_of_pos (a.tmod m + m) (show (0 : Int) < m by omega)
  exact ⟨by unfold wrap64; omega, ((a.tmod m + m).tmod m).toNat, by omega, by omega⟩
set_option maxHeartbeats 8000000 in
set_option maxRecDepth 100000 in
theorem round_any (a b c : Int) (w : World) : Calls Try.prog 5 #[.int .i64 a, .int .i64 b, .int .i64 c] w fun e w' => e = .returned (.bool true) ∧ Below w.heap.size w w' := by
  have HN := Lib.hid (plnew w)
  have HWK := Lib.hid (fun W => works_any W)
  obtain ⟨hm1, hm2, m, hm3, hml⟩ := rnd_many a
  obtain ⟨hp1, hpl⟩ := rnd_prio b
  obtain ⟨hf1, f, hf2, hfl⟩ := rnd_first c m hml
  obtain ⟨pr, hpr⟩ : ∃ pr, pr = (b.tmod 31 + 31).tmod 31 := ⟨_, rfl⟩
  rw [← hpr] at hpl
  have HPR := Lib.hid hpr.symm
  go_enter Try.func5, Try.ntmps5
  go_wp2_with fail
  refine HN.out.mono ?_
  rintro e w1 ⟨S, v1, rfl, hL, hb1⟩
  obtain ⟨bl, rfl, _⟩ := (hL S).ptr
  rw [HPR.out]
  clear hpr HPR hp1 hm1 hm2 hm3
  obtain ⟨hp0, hp30⟩ := hpl
  have HW0 := Lib.hid (show RnW w S pr m 0 0 (.pointer (some ⟨bl, 0, none⟩)) (.slice none 0 0) 0 w1 from
    ⟨S, fun _ => tk0, ⟨PI.new, hL S, World.ownsRow_nil _ _ _ _, fun x q => q, fun g e => (by cases e), fun g e => (by cases e), fun x q => ((hL S).lt x q).2, hb1⟩, RR.zero _ _ _⟩)
  clear hL hb1 HN
  go_wp2_with fail
  go_loopw [8, 9, 10, 11] (fun lv iv _ _ wr => ∃ i : Nat, iv = .int .i64 i ∧ i ≤ m ∧ Hid (RnW w S pr m i 0 (.pointer (some ⟨bl, 0, none⟩)) lv i wr)) (fun _ iv _ _ _ => m - (intOf iv).toNat)
  case atStart => exact ⟨0, rfl, Nat.zero_le _, HW0⟩
  case round =>
    clear HW0
    obtain ⟨i, rfl, him, HW⟩ := hrel
    obtain ⟨_, _, hx, _⟩ := HW.out
    obtain ⟨pw, cw, rfl⟩ := own_slice hx.row
    clear hx
    have z0 : (0 : Int) ≤ (i : Int) := by omega
    by_cases hlt : i < m
    · have z1 : (i : Int) < (m : Int) := by omega
      have HCR := Lib.hid (rn_create HW.out (by omega) pr (by omega))
      go_wp2_with fail
      refine HCR.out.mono ?_
      rintro e w2 ⟨rfl, hM⟩
      have HPU := Lib.hid (rn_push hM (by omega) (by omega) (by rw [if_pos hlt]) 1000 (fun _ => rfl) ⟨by decide, by decide⟩)
      clear hM HCR HW
      obtain ⟨i0, hi, hz0, hz1, hz2⟩ := info_parts Try.info43
      obtain ⟨x, hx⟩ : ∃ x, x = mkH 3 i 1 := ⟨_, rfl⟩
      have HXE := Lib.hid hx
      rw [← hx] at HPU ⊢
      clear hx
      go_wp2_with fail
      refine HPU.out.mono ?_
      rintro e w3 ⟨rfl, hW3⟩
      have HW3 := Lib.hid hW3
      obtain ⟨_, _, hx3, _⟩ := hW3
      have HRO := Lib.hid hx3.row
      have HSZ := Lib.hid hx3.bel.size
      clear hx3 HPU
      have hsz := HSZ.out
      go_wp2_with (at_builtin; refine wpList_append_own_at _ rfl _ _ 32 rfl w.heap.size 43 i0 (.int .i64 0) 1 8 Try.underlying32 hi hz0 hz1 hz2 rfl (by decide) (.slice pw i cw) i (ints (rL i)) rfl (HRO.out.alloc _) ⟨w3.heap.size, 0, none⟩ 1 1 [.int .i64 x] rfl rfl (news_one w3 _ _) (by intro u hu; simp at hu; subst hu; rfl) (by unfold maxLen; omega) (by omega) (by simp; omega) ?_)
      intro v5 w5 hown5 hgrow5 hne5 hat5
      rw [HXE.out, rL_snoc] at hown5
      have HW5 := Lib.hid (RnW.app HW3.out (W1 := w3.alloc (.cells #[.int .i64 x] 43)) ((Below.refl _ _).alloc (Nat.le_refl _) _) hown5 hgrow5 (fun g e => by
        rcases hat5 with q | q
        · exact .inl (q ▸ e)
        · rw [q] at e; cases e; exact .inr (by simp)))
      clear hown5 hgrow5 hne5 hat5
      go_wp2_with fail
      go_roundw
      case rel => exact ⟨i + 1, by go_num, by omega, HW5⟩
      case measure => simp [intOf]; omega
    · obtain rfl : m = i := by omega
      clear hlt z0
      have HCR := Lib.hid (rn_create HW.out (by omega) (pr + 1) (by omega))
      go_wp2_with fail
      refine HCR.out.mono ?_
      rintro e w2 ⟨rfl, hM⟩
      have HPU := Lib.hid (rn_push hM (by omega) (by omega) (by rw [if_neg (Nat.lt_irrefl m)]) 9 (fun q => absurd q (Nat.lt_irrefl m)) ⟨by decide, by decide⟩)
      clear hM HCR HW
      obtain ⟨x, hx⟩ : ∃ x, x = mkH 3 m 1 := ⟨_, rfl⟩
      rw [← hx] at HPU ⊢
      clear hx
      go_wp2_with fail
      refine HPU.out.mono ?_
      rintro e w3 ⟨rfl, hW3⟩
      have HW3 := Lib.hid hW3
      clear hW3 HPU
      have hm0 : ¬ ((m : Int) = 0) := by omega
      go_wp2_with fail
      clear hf1 hf2
      go_loopw [14] (fun iv wr => ∃ k : Nat, iv = .int .i64 k ∧ k ≤ f ∧ Hid (RnW w S pr m (m + 1) k (.pointer (some ⟨bl, 0, none⟩)) (.slice pw m cw) m wr)) (fun iv _ => f - (intOf iv).toNat)
      case atStart => exact ⟨0, rfl, Nat.zero_le _, HW3⟩
      case round =>
        clear HW3
        obtain ⟨k, rfl, hkf, HW⟩ := hrel
        have z0 : (0 : Int) ≤ (k : Int) := by omega
        by_cases hlt : k < f
        · have z1 : (k : Int) < (f : Int) := by omega
          have HG := Lib.hid (rn_give HW.out (by omega) (by omega))
          go_wp2_with fail
          refine HG.out.mono ?_
          rintro e w4 ⟨rfl, hW4⟩
          have HW4 := Lib.hid hW4
          clear hW4 HG
          generalize mkH 3 (k % m : Nat) 1 = y
          go_wp2_with fail
          go_roundw
          case rel => exact ⟨k + 1, by go_num, by omega, HW4⟩
          case measure => simp [intOf]; omega
        · obtain rfl : f = k := by omega
          clear hlt z0
          go_wp2_with fail
          go_loopw [15, 16, 17, 18, 19] (fun iv _ _ _ _ wr => ∃ k : Nat, iv = .int .i64 k ∧ k ≤ 3 * m ∧ Hid (RnW w S pr m (m + 1) (f + k) (.pointer (some ⟨bl, 0, none⟩)) (.slice pw m cw) m wr)) (fun iv _ _ _ _ _ => 3 * m - (intOf iv).toNat)
          case atStart => exact ⟨0, rfl, Nat.zero_le _, HW⟩
          case round =>
            clear HW
            obtain ⟨k, rfl, hkm, HW⟩ := hrel
            have z0 : (0 : Int) ≤ (k : Int) := by omega
            by_cases hlt : k < 3 * m
            · have z1 : (k : Int) < 3 * (m : Int) := by omega
              have HG := Lib.hid (rn_give HW.out (by omega) (by omega))
              have hmod : ((f : Int) + (k : Int)).tmod (m : Int) = (((f + k) % m : Nat) : Int) := by
                rw [Int.tmod_eq_emod_of_nonneg (by omega), Int.natCast_emod, Int.natCast_add]
              have hjm := Nat.mod_lt (f + k) (show 0 < m by omega)
              rw [show ((f + k : Nat) : Int) = (f : Int) + (k : Int) from Int.natCast_add f k] at HG
              obtain ⟨j, hj⟩ : ∃ j, j = (f + k) % m := ⟨_, rfl⟩
              rw [← hj] at HG hmod hjm
              have y0 : (0 : Int) ≤ (j : Int) := by omega
              have y1 : (j : Int) < (m : Int) := by omega
              obtain ⟨x, hx⟩ : ∃ x, x = mkH 3 j 1 := ⟨_, rfl⟩
              rw [← hx] at HG
              have HXE := Lib.hid hx
              clear hx hj
              go_wp2_with fail
              refine HG.out.mono ?_
              rintro e w4 ⟨rfl, hW4⟩
              have HW4 := Lib.hid hW4
              obtain ⟨_, _, hx4, _⟩ := hW4
              have HRO := Lib.hid hx4.row
              obtain ⟨g, cg, e4, hmc, _, _⟩ := own_block2 HRO.out (by omega)
              cases e4
              have hl : (ints (rL m))[j]? = some (.int .i64 x) := by
                rw [HXE.out]; unfold ints rL; rw [List.getElem?_map, List.getElem?_map, List.getElem?_range hjm]; rfl
              have x0 := (World.ownsRow.cellAt HRO.out j (by rw [Nat.mul_one]; exact hjm)).trans hl
              have hq1 : ((x : Int) == x) = true := by simp
              clear hx4 HG hl
              go_wp2_with fail
              go_roundw
              case rel => exact ⟨k + 1, by go_num, by omega, HW4⟩
              case measure => simp [intOf]; omega
            · obtain rfl : k = 3 * m := by omega
              have hz : ((3 * m : Nat) : Int) = 3 * (m : Int) := by omega
              go_wp2_with fail
              refine (HWK.out _).mono ?_
              rintro e w6 ⟨rfl, hb6⟩
              go_wp2_with fail
              go_ret
              exact ⟨rfl, bnext HW.out.bel hb6⟩
end Go.Proofs.Ytedgchafligndaa
