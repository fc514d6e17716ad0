/- The walk of AdmitLoads: whatever the claims and the row of acts, it answers true; no condition. -/
import Derived.Test.YtilbohjkkdkdiaaGLawRuns
import Derived.Test.YtilbohjkkdkdiaaGLoadR
namespace Go.Proofs.Ytilbohjkkdkdiaa
open Go.RowKit

theorem own_growP {w W W' : World} {v : Value} {n : Nat} {xs : List Value} (hb : Below w.heap.size w W) (ho : W.ownsRow w.heap.size PT 4 v n xs) (hg : W.grownBy W' v.ownBlock) : Below w.heap.size w W' :=
  hb.grown hg hb.size (fun g e => by
    rcases ho.2 with ⟨h1, _⟩ | ⟨g', c', cu, h1, h2, _⟩
    · rw [h1] at e; simp [Value.ownBlock] at e
    · rw [h1] at e; simp [Value.ownBlock] at e; omega)

set_option maxHeartbeats 8000000 in
set_option maxRecDepth 100000 in
theorem loads_any (v0 : Value) (L : List Cl) (v1 : Value) (l2 : List (Int × Int × Int)) (w : World) (h : Rd w v0 L) (h2 : ActsAt w v1 l2) : Calls Try.prog 4 #[v0, v1] w fun e w' => e = .returned (.bool true) ∧ Below w.heap.size w w' := by
  have HRD := Lib.hid h
  have HA2 := Lib.hid h2
  obtain ⟨p, cap, rfl, hl, hc⟩ := h
  obtain ⟨p2, cap2, rfl, hl2, hc2⟩ := h2
  have HC := Lib.hid hc
  clear hc hc2
  go_enter Try.func4, Try.ntmps4
  go_wp2_with fail
  go_loopw [5, 6] (fun u i wr => ∃ k : Nat, k ≤ L.length ∧ i = .int .i64 k ∧ Hid (wr.ownsRow w.heap.size PT 4 u k (cells4 (L.take k))) ∧ Hid (Below w.heap.size w wr)) (fun _ i _ => L.length - (intOf i).toNat)
  case atStart => exact ⟨0, by omega, rfl, Lib.hid (World.ownsRow_nil _ _ _ _), Lib.hid (Below.refl _ _)⟩
  case round =>
    obtain ⟨k, hk, rfl, HO, HBW⟩ := hrel
    have hzw := HBW.out.size
    by_cases hlt : k < L.length
    · have hlt' : (k : Int) < (L.length : Int) := by omega
      have hk0 : (0 : Int) ≤ (k : Int) := by omega
      obtain ⟨pu, cu, rfl, _⟩ := own_small HO.out
      obtain ⟨b', off, rfl, c0, c1, c2, c3⟩ := HC.out k hlt
      have d0 := (HBW.out.cell (cell_lt c0)).trans c0
      have d1 := (HBW.out.cell (cell_lt c1)).trans c1
      have d2 := (HBW.out.cell (cell_lt c2)).trans c2
      have d3 := (HBW.out.cell (cell_lt c3)).trans c3
      have HTK := Lib.hid (show cells4 (L.take (k + 1)) = cells4 (L.take k) ++ [.int .i64 L[k].s, .int .i64 L[k].n, .int .i64 L[k].x, .bool L[k].d] from by rw [List.take_succ_eq_append_getElem hlt, cells4_append]; rfl)
      clear c0 c1 c2 c3
      generalize L[k] = c at *
      obtain ⟨cs, cn, cx, cd⟩ := c
      simp only at d0 d1 d2 d3
      go_wp2_with (at_builtin; refine wpList_append_P rfl _ _ rfl w.heap.size (.slice pu k cu) k (cells4 (L.take k)) rfl (HO.out.kept (World.grownBy_alloc _ _ none) (Classical.em _)) _ 1 [.int .i64 cs, .int .i64 cn, .int .i64 cx, .bool cd] rfl (src_one wr _ _ _ _ _) (one_cells _ _ _ _) (by omega) (by simp; omega) ?_)
      intro p1 c1 w2 ho hg _
      have HO2 := Lib.hid (show w2.ownsRow w.heap.size PT 4 (.slice p1 (k + 1) c1) (k + 1) (cells4 (L.take (k + 1))) from by rw [HTK.out]; exact ho)
      have HB2 := Lib.hid (own_growP (HBW.out.alloc hzw _) (HO.out.kept (World.grownBy_alloc _ _ none) (Classical.em _)) hg)
      clear ho hg
      go_wp2_with fail
      go_roundw
      case rel => exact ⟨k + 1, by omega, by go_num, HO2, HB2⟩
      case measure => simp [intOf]; omega
    · obtain rfl : k = L.length := by omega
      have hg3 : decide (L.length < L.length) = false := decide_eq_false (by omega)
      have hrd : Rd wr u5 L := own_rd (by have := HO.out; rwa [List.take_of_length_le (Nat.le_refl _)] at this) hl
      have HR := Lib.hid hrd
      have HRD2 := Lib.hid (HRD.out.below HBW.out)
      clear hlt HO hrd hk
      go_wp2_with fail
      refine (load_any _ _ _ HR.out).mono ?_
      rintro e w2 ⟨hb2, hw2⟩
      have HB2 := Lib.hid hb2
      have HW2 := Lib.hid (bnext HBW.out hb2)
      have HRD3 := Lib.hid (HRD2.out.below hb2)
      clear hb2 HR HRD2
      rcases hw2 with ⟨he, f, rfl, hbk, hG, hls⟩ | ⟨he, rfl⟩
      · have HBK := Lib.hid hbk
        have HG := Lib.hid hG
        have HLS := Lib.hid hls
        have HE := Lib.hid he
        have hwb : w.heap.size ≤ wr.heap.size := hzw
        clear hbk hG hls he
        go_wp2_with fail
        refine (rload_any _ _ _ HRD3.out).mono ?_
        rintro e w3 ⟨hb3, hw3⟩
        rcases hw3 with ⟨_, v3, rfl, hr3⟩ | ⟨hne, _⟩
        · have HRU := Lib.hid (show RuI wr.heap.size w v3 w3 f from ⟨HBK.out.below hb3, HG.out, bnext HW2.out hb3, by rw [HLS.out]; exact hr3⟩)
          have h64 := lst64 f
          clear hb3 hr3 HRD3 HBK HW2 HB2 HLS HBW
          generalize wr.heap.size = b at *
          go_wp2_with fail
          refine (num_nil _).mono ?_
          rintro e w4 ⟨rfl, rfl⟩
          go_wp2_with fail
          go_loopw [9, 11] (fun u i wr => ∃ (k : Nat) (f : Nat → Cl), k ≤ l2.length ∧ i = .int .i64 k ∧ Hid (RuI b w u wr f)) (fun _ i _ => l2.length - (intOf i).toNat)
          case atStart => exact ⟨0, _, by omega, rfl, HRU⟩
          case round =>
            obtain ⟨k2, f2, hk2, rfl, HI⟩ := hrel
            clear HRU
            by_cases hlt2 : k2 < l2.length
            · have hlt2' : (k2 : Int) < (l2.length : Int) := by omega
              have hk20 : (0 : Int) ≤ (k2 : Int) := by omega
              obtain ⟨b', off, x0, x1, x2, rfl, hlb, q0, q1, q2⟩ := act_at HA2.out hlt2
              have r0 := (HI.out.2.2.1.cell (p := ⟨b', _, none⟩) hlb).trans q0
              have r1 := (HI.out.2.2.1.cell (p := ⟨b', _, none⟩) hlb).trans q1
              have r2 := (HI.out.2.2.1.cell (p := ⟨b', _, none⟩) hlb).trans q2
              clear q0 q1 q2
              go_wp2_with fail
              refine (do_any _ _ f2 _ _ _ _ HI.out.1 HI.out.2.1 HI.out.2.2.2).mono ?_
              rintro e w5 ⟨m5, f5, rfl, hb5, hg5, hv5, hk5⟩
              have HI5 := Lib.hid (ru_turn HI.out hwb hb5 hg5 hv5 hk5)
              have h645 := lst64 f5
              clear hb5 hg5 hv5 hk5 r0 r1 r2
              go_wp2_with fail
              refine (list_any _ f5 _ HI5.out.1 HI5.out.2.1).mono ?_
              rintro e w6 ⟨v6, rfl, ho6, hb6⟩
              have HI6 := Lib.hid (ru_below HI5.out hb6)
              have HR6 := Lib.hid (own_rd ho6 (by omega))
              clear ho6 hb6 HI5
              go_wp2_with fail
              refine (same_yes _ _ _ _ HR6.out HI6.out.2.2.2.1 (by omega)).mono ?_
              rintro e w7 ⟨rfl, hb7⟩
              have HI7 := Lib.hid (ru_below HI6.out hb7)
              clear hb7 HI6 HR6
              go_wp2_with fail
              go_roundw
              case rel => exact ⟨k2 + 1, f5, by omega, by go_num, HI7⟩
              case measure => simp [intOf]; omega
            · have hg4 : decide (k2 < l2.length) = false := decide_eq_false hlt2
              have HWE := Lib.hid HI.out.2.2.1
              clear hlt2 HI
              go_wp2_with fail
              refine (works_any _).mono ?_
              rintro e w9 ⟨rfl, hb9⟩
              have HB9 := Lib.hid (bnext HWE.out hb9)
              clear hb9
              go_wp2_with fail
              go_ret
              exact ⟨rfl, HB9.out⟩
        · exact absurd HE.out hne
      · obtain ⟨n, hn⟩ : ∃ n, loadE L = n := ⟨_, rfl⟩
        rw [hn] at he ⊢
        have HE := Lib.hid hn
        have hn1 : (n != 0) = true := by simpa using he
        have hn2 : (n == 0) = false := by simpa using he
        have HNE := Lib.hid he
        clear he hn HBW
        go_wp2_with fail
        refine (rload_any _ _ _ HRD3.out).mono ?_
        rintro e w3 ⟨hb3, hw3⟩
        rcases hw3 with ⟨h0, _⟩ | ⟨_, rfl⟩
        · exact absurd (HE.out.symm.trans h0) HNE.out
        · rw [HE.out]
          have HW3 := Lib.hid (bnext HW2.out hb3)
          clear hb3 HRD3 HW2 HB2
          go_wp2_with fail
          refine (num_any n _).mono ?_
          rintro e w4 ⟨rfl, rfl⟩
          go_wp2_with fail
          go_loopw [11] (fun i wr => i = .int .i64 0 ∧ Hid (Below w.heap.size w wr)) (fun _ _ => 0)
          case atStart => exact ⟨rfl, HW3⟩
          case round =>
            obtain ⟨rfl, HB5⟩ := hrel
            clear HW3
            by_cases hl0 : 0 < l2.length
            · have hl0' : (0 : Int) < (l2.length : Int) := by omega
              go_wp2_with fail
              refine (works_any _).mono ?_
              rintro e w9 ⟨rfl, hb9⟩
              have HB9 := Lib.hid (bnext HB5.out hb9)
              clear hb9
              go_wp2_with fail
              go_ret
              exact ⟨rfl, HB9.out⟩
            · have hl0' : decide (0 < l2.length) = false := decide_eq_false hl0
              have hl1 : decide ((0 : Int) < (l2.length : Int)) = false := decide_eq_false (by omega)
              clear hl0
              go_wp2_with fail
              refine (works_any _).mono ?_
              rintro e w9 ⟨rfl, hb9⟩
              have HB9 := Lib.hid (bnext HB5.out hb9)
              clear hb9
              go_wp2_with fail
              go_ret
              exact ⟨rfl, HB9.out⟩
end Go.Proofs.Ytilbohjkkdkdiaa
