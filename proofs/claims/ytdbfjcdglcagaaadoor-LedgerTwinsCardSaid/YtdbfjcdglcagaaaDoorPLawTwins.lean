/- The law LedgerTwins, walked for any two lists of acts: it answers true; no condition but that the listed variable holds what the program's text lays in it. -/
import Derived.Test.YtdbfjcdglcagaaaDoorPLawPlays
import Derived.Test.YtdbfjcdglcagaaaDoorPClone
namespace Go.Proofs.YtdbfjcdglcagaaaDoor
open Go.RowKit Bk

theorem Both.turn {w w' : World} {b mb c mc : Nat} {v : Value} {L M : List Ln} (h : Both w b mb v L) (hc : PBk w c mc M) (hk : Keeps (fun x => x = mc) w w') (h1 : b ≠ mc) (h2 : mb ≠ mc) : Both w' b mb v L :=
  ⟨h.pb.keeps hk h1 h2, own_turn h.rb hc.map hk, h.iv, laid_turn h.laid hc.map hk⟩
theorem clone_both {w : World} {b mb : Nat} {v : Value} {L : List Ln} (h : Both w b mb v L) :
    Calls Tryd.prog 18 #[.pointer (some ⟨b, 0, none⟩)] w fun e w' => ∃ c mc, e = .returned (.pointer (some ⟨c, 0, none⟩)) ∧ Both w' b mb v L ∧ Both w' c mc v L ∧ b ≠ mc ∧ mb ≠ mc ∧ w.heap.size ≤ mc ∧ Below w.heap.size w w' :=
  (pclone w b mb L h.pb).mono (by
    rintro e w' ⟨rfl, hp, hb⟩
    exact ⟨_, _, rfl, h.below hb, ⟨hp, h.rb.below hb, h.iv, h.laid.below hb⟩, by have := h.pb.lt; omega, by have := h.pb.lt; omega, Nat.le_refl _, hb⟩)
set_option maxHeartbeats 2000000 in
set_option maxRecDepth 100000 in
theorem twins_any (u1 : Value) (n1 : Nat) (T1 : Nat → Oy) (u2 : Value) (n2 : Nat) (T2 : Nat → Oy) (w : World) (hg : LaidAt w) (hu : OpsIn w u1 n1 T1) (hv : OpsIn w u2 n2 T2) :
    Calls Tryd.prog 5 #[u1, u2] w fun e w' => e = .returned (.bool true) ∧ Below w.heap.size w w' := by
  have HN := Lib.hid (pnew w 1 (by unfold I64; omega) (by decide))
  have HS := Lib.hid sure_any
  have HU := Lib.hid (fun W (hb : Below w.heap.size w W) => hu.below hb)
  have HV := Lib.hid (fun W (hb : Below w.heap.size w W) => hv.below hb)
  have HG := Lib.hid hg
  have HI := Lib.hid (iv_new (show I64 1 from by unfold I64; omega) (by decide))
  obtain ⟨p1, cap1, rfl, hn1, hc⟩ := hu
  obtain ⟨p2, cap2, rfl, hn2, hc2⟩ := hv
  clear hc hc2 hg
  go_enter Tryd.func5, Tryd.ntmps5
  go_wp2_with fail
  refine HN.out.mono ?_
  rintro e w1 ⟨b, mb, rfl, hbk, hb1, hm1, hw1⟩
  have HB1 := Lib.hid hw1
  have HBK := Lib.hid hbk
  clear hbk hw1
  go_wp2_with fail
  refine (rnew _ 1).mono ?_
  rintro e w2 ⟨v, rfl, hv, hb2⟩
  have HB2 := Lib.hid (bnext HB1.out hb2)
  have HBO := Lib.hid (show Both w2 b mb v [⟨1, 0, z6, z6⟩] from ⟨HBK.out.below hb2, hv, HI.out, HG.out.below (bnext HB1.out hb2)⟩)
  clear hb2 hv HI HBK
  generalize hL0 : [(⟨1, 0, z6, z6⟩ : Ln)] = L0 at HBO
  have hlen : L0.length = 1 := by rw [← hL0]; rfl
  clear hL0
  go_wp2_with fail
  go_loopw [6, 7] (fun rv iv wr => ∃ i : Nat, iv = .int .i64 i ∧ i ≤ n1 ∧ i ≤ 100 ∧ Hid (Both wr b mb rv (playL L0 T1 i)) ∧ Hid (Below w.heap.size w wr)) (fun _ iv _ => n1 - (intOf iv).toNat)
  case atStart => exact ⟨0, rfl, Nat.zero_le _, by omega, HBO, HB2⟩
  case round =>
    obtain ⟨i, rfl, hi, hi2, HO, HB⟩ := hrel
    clear HBO HB2
    have hpl := play_len L0 T1 i
    by_cases hin : i < n1
    · by_cases hi3 : i < 100
      · have hin' : (i : Int) < (n1 : Int) := by omega
        have hi3' : (i : Int) < 100 := by omega
        obtain ⟨p', cap', e', _, hcc⟩ := HU.out wr HB.out
        cases e'
        obtain ⟨⟨g, off, rfl, c0, c1, c2, c3, c4, c5, c6, c7, c8, c9, c10, c11, c12, c13, c14, c15, c16, c17⟩, hok⟩ := hcc i hin
        clear hcc
        have HST := Lib.hid (step_any wr b mb _ (playL L0 T1 i) HO.out (by omega) (T1 i) hok)
        have HPL := Lib.hid (show playL L0 T1 (i + 1) = stepB (playL L0 T1 i) (T1 i) from rfl)
        generalize stepB (playL L0 T1 i) (T1 i) = L' at HST HPL
        generalize T1 i = o at HST c0 c1 c2 c3 c4 c5 c6 c7 c8 c9 c10 c11 c12 c13 c14 c15 c16 c17 hok
        clear hok
        iterate 52 go_step
        refine wp_load_op (.tmp 32) rfl g (off + i * 18) rfl o ⟨c0, c1, c2, c3, c4, c5, c6, c7, c8, c9, c10, c11, c12, c13, c14, c15, c16, c17⟩ ?_
        go_wp2_with fail
        refine HST.out.mono ?_
        rintro e w3 ⟨v3, rfl, hB3, hk3⟩
        have HB3 := Lib.hid (below_keeps HB.out hk3 (fun x e => by rw [e]; exact hm1))
        have HO3 := Lib.hid hB3
        clear hB3 hk3 c0 c1 c2 c3 c4 c5 c6 c7 c8 c9 c10 c11 c12 c13 c14 c15 c16 c17
        go_wp2_with fail
        go_roundw
        case rel => exact ⟨i + 1, by go_num, by omega, by omega, Lib.hid (by rw [HPL.out]; exact HO3.out), HB3⟩
        case measure => simp [intOf]; omega
      · have hi3' : ¬ (i : Int) < 100 := by omega
        have hin' : (i : Int) < (n1 : Int) := by omega
        generalize playL L0 T1 i = L1 at HO hpl
        have HPC := Lib.hid (clone_both HO.out)
        go_wp2_with fail
        refine HPC.out.mono ?_
        rintro e w5 ⟨c, mc, rfl, hb5, hc5, n1', n2', hm5, hw5⟩
        have HB5 := Lib.hid (bnext HB.out hw5)
        have hmc : w.heap.size ≤ mc := Nat.le_trans HB.out.size hm5
        have HBb := Lib.hid hb5
        have HBc := Lib.hid hc5
        clear hw5 hm5 hb5 hc5 HPC HO HB
        go_wp2_with fail
        go_loopw [9, 10] (fun sv jv wr => ∃ j : Nat, jv = .int .i64 j ∧ j ≤ n2 ∧ j ≤ 100 ∧ Hid (Both wr b mb _ L1) ∧ Hid (Both wr c mc sv (playL L1 T2 j)) ∧ Hid (Below w.heap.size w wr)) (fun _ jv _ => n2 - (intOf jv).toNat)
        case atStart => exact ⟨0, rfl, Nat.zero_le _, by omega, HBb, HBc, HB5⟩
        case round =>
          obtain ⟨j, rfl, hj, hj2, HOb, HO, HB⟩ := hrel
          clear HBb HBc HB5
          have hpl2 := play_len L1 T2 j
          by_cases hjn : j < n2
          · by_cases hj3 : j < 100
            · have hjn' : (j : Int) < (n2 : Int) := by omega
              have hj3' : (j : Int) < 100 := by omega
              obtain ⟨p', cap', e', _, hcc⟩ := HV.out wr HB.out
              cases e'
              obtain ⟨⟨g, off, rfl, c0, c1, c2, c3, c4, c5, c6, c7, c8, c9, c10, c11, c12, c13, c14, c15, c16, c17⟩, hok⟩ := hcc j hjn
              clear hcc
              have HST := Lib.hid (step_any wr c mc _ (playL L1 T2 j) HO.out (by omega) (T2 j) hok)
              have HPL := Lib.hid (show playL L1 T2 (j + 1) = stepB (playL L1 T2 j) (T2 j) from rfl)
              generalize stepB (playL L1 T2 j) (T2 j) = L' at HST HPL
              generalize T2 j = o at HST c0 c1 c2 c3 c4 c5 c6 c7 c8 c9 c10 c11 c12 c13 c14 c15 c16 c17 hok
              clear hok
              iterate 53 go_step
              refine wp_load_op (.tmp 57) rfl g (off + j * 18) rfl o ⟨c0, c1, c2, c3, c4, c5, c6, c7, c8, c9, c10, c11, c12, c13, c14, c15, c16, c17⟩ ?_
              go_wp2_with fail
              refine HST.out.mono ?_
              rintro e w3 ⟨v3, rfl, hB3, hk3⟩
              have HB3 := Lib.hid (below_keeps HB.out hk3 (fun x e => by rw [e]; exact hmc))
              have HOb3 := Lib.hid (HOb.out.turn HO.out.pb hk3 n1' n2')
              have HO3 := Lib.hid hB3
              clear hB3 hk3 c0 c1 c2 c3 c4 c5 c6 c7 c8 c9 c10 c11 c12 c13 c14 c15 c16 c17
              go_wp2_with fail
              go_roundw
              case rel => exact ⟨j + 1, by go_num, by omega, by omega, HOb3, Lib.hid (by rw [HPL.out]; exact HO3.out), HB3⟩
              case measure => simp [intOf]; omega
            · have hj3' : ¬ (j : Int) < 100 := by omega
              have hjn' : (j : Int) < (n2 : Int) := by omega
              generalize playL L1 T2 j = L2 at HO hpl2
              have HA1 := Lib.hid (alike_any wr b mb _ L1 HOb.out (by omega))
              have HA2 := Lib.hid (fun W (hb : Below wr.heap.size wr W) => alike_any W c mc _ L2 (HO.out.below hb) (by omega))
              go_wp2_with fail
              refine HA1.out.mono ?_
              rintro e w8 ⟨rfl, hb8⟩
              have HB8 := Lib.hid hb8
              clear hb8
              go_wp2_with fail
              refine (HA2.out _ HB8.out).mono ?_
              rintro e w9 ⟨rfl, hb9⟩
              have HB9 := Lib.hid (bnext HB8.out hb9)
              clear hb9
              go_wp2_with fail
              refine (HS.out _).mono ?_
              rintro e w10 ⟨rfl, hb10⟩
              have HB10 := Lib.hid (bnext HB.out (bnext HB9.out hb10))
              clear hb10
              go_wp2_with fail
              go_ret
              exact ⟨rfl, HB10.out⟩
          · have hjn' : ¬ (j : Int) < (n2 : Int) := by omega
            generalize playL L1 T2 j = L2 at HO hpl2
            have HA1 := Lib.hid (alike_any wr b mb _ L1 HOb.out (by omega))
            have HA2 := Lib.hid (fun W (hb : Below wr.heap.size wr W) => alike_any W c mc _ L2 (HO.out.below hb) (by omega))
            go_wp2_with fail
            refine HA1.out.mono ?_
            rintro e w8 ⟨rfl, hb8⟩
            have HB8 := Lib.hid hb8
            clear hb8
            go_wp2_with fail
            refine (HA2.out _ HB8.out).mono ?_
            rintro e w9 ⟨rfl, hb9⟩
            have HB9 := Lib.hid (bnext HB8.out hb9)
            clear hb9
            go_wp2_with fail
            refine (HS.out _).mono ?_
            rintro e w10 ⟨rfl, hb10⟩
            have HB10 := Lib.hid (bnext HB.out (bnext HB9.out hb10))
            clear hb10
            go_wp2_with fail
            go_ret
            exact ⟨rfl, HB10.out⟩
    · have hin' : ¬ (i : Int) < (n1 : Int) := by omega
      generalize playL L0 T1 i = L1 at HO hpl
      have HPC := Lib.hid (clone_both HO.out)
      go_wp2_with fail
      refine HPC.out.mono ?_
      rintro e w5 ⟨c, mc, rfl, hb5, hc5, n1', n2', hm5, hw5⟩
      have HB5 := Lib.hid (bnext HB.out hw5)
      have hmc : w.heap.size ≤ mc := Nat.le_trans HB.out.size hm5
      have HBb := Lib.hid hb5
      have HBc := Lib.hid hc5
      clear hw5 hm5 hb5 hc5 HPC HO HB
      go_wp2_with fail
      go_loopw [9, 10] (fun sv jv wr => ∃ j : Nat, jv = .int .i64 j ∧ j ≤ n2 ∧ j ≤ 100 ∧ Hid (Both wr b mb _ L1) ∧ Hid (Both wr c mc sv (playL L1 T2 j)) ∧ Hid (Below w.heap.size w wr)) (fun _ jv _ => n2 - (intOf jv).toNat)
      case atStart => exact ⟨0, rfl, Nat.zero_le _, by omega, HBb, HBc, HB5⟩
      case round =>
        obtain ⟨j, rfl, hj, hj2, HOb, HO, HB⟩ := hrel
        clear HBb HBc HB5
        have hpl2 := play_len L1 T2 j
        by_cases hjn : j < n2
        · by_cases hj3 : j < 100
          · have hjn' : (j : Int) < (n2 : Int) := by omega
            have hj3' : (j : Int) < 100 := by omega
            obtain ⟨p', cap', e', _, hcc⟩ := HV.out wr HB.out
            cases e'
            obtain ⟨⟨g, off, rfl, c0, c1, c2, c3, c4, c5, c6, c7, c8, c9, c10, c11, c12, c13, c14, c15, c16, c17⟩, hok⟩ := hcc j hjn
            clear hcc
            have HST := Lib.hid (step_any wr c mc _ (playL L1 T2 j) HO.out (by omega) (T2 j) hok)
            have HPL := Lib.hid (show playL L1 T2 (j + 1) = stepB (playL L1 T2 j) (T2 j) from rfl)
            generalize stepB (playL L1 T2 j) (T2 j) = L' at HST HPL
            generalize T2 j = o at HST c0 c1 c2 c3 c4 c5 c6 c7 c8 c9 c10 c11 c12 c13 c14 c15 c16 c17 hok
            clear hok
            iterate 53 go_step
            refine wp_load_op (.tmp 57) rfl g (off + j * 18) rfl o ⟨c0, c1, c2, c3, c4, c5, c6, c7, c8, c9, c10, c11, c12, c13, c14, c15, c16, c17⟩ ?_
            go_wp2_with fail
            refine HST.out.mono ?_
            rintro e w3 ⟨v3, rfl, hB3, hk3⟩
            have HB3 := Lib.hid (below_keeps HB.out hk3 (fun x e => by rw [e]; exact hmc))
            have HOb3 := Lib.hid (HOb.out.turn HO.out.pb hk3 n1' n2')
            have HO3 := Lib.hid hB3
            clear hB3 hk3 c0 c1 c2 c3 c4 c5 c6 c7 c8 c9 c10 c11 c12 c13 c14 c15 c16 c17
            go_wp2_with fail
            go_roundw
            case rel => exact ⟨j + 1, by go_num, by omega, by omega, HOb3, Lib.hid (by rw [HPL.out]; exact HO3.out), HB3⟩
            case measure => simp [intOf]; omega
          · have hj3' : ¬ (j : Int) < 100 := by omega
            have hjn' : (j : Int) < (n2 : Int) := by omega
            generalize playL L1 T2 j = L2 at HO hpl2
            have HA1 := Lib.hid (alike_any wr b mb _ L1 HOb.out (by omega))
            have HA2 := Lib.hid (fun W (hb : Below wr.heap.size wr W) => alike_any W c mc _ L2 (HO.out.below hb) (by omega))
            go_wp2_with fail
            refine HA1.out.mono ?_
            rintro e w8 ⟨rfl, hb8⟩
            have HB8 := Lib.hid hb8
            clear hb8
            go_wp2_with fail
            refine (HA2.out _ HB8.out).mono ?_
            rintro e w9 ⟨rfl, hb9⟩
            have HB9 := Lib.hid (bnext HB8.out hb9)
            clear hb9
            go_wp2_with fail
            refine (HS.out _).mono ?_
            rintro e w10 ⟨rfl, hb10⟩
            have HB10 := Lib.hid (bnext HB.out (bnext HB9.out hb10))
            clear hb10
            go_wp2_with fail
            go_ret
            exact ⟨rfl, HB10.out⟩
        · have hjn' : ¬ (j : Int) < (n2 : Int) := by omega
          generalize playL L1 T2 j = L2 at HO hpl2
          have HA1 := Lib.hid (alike_any wr b mb _ L1 HOb.out (by omega))
          have HA2 := Lib.hid (fun W (hb : Below wr.heap.size wr W) => alike_any W c mc _ L2 (HO.out.below hb) (by omega))
          go_wp2_with fail
          refine HA1.out.mono ?_
          rintro e w8 ⟨rfl, hb8⟩
          have HB8 := Lib.hid hb8
          clear hb8
          go_wp2_with fail
          refine (HA2.out _ HB8.out).mono ?_
          rintro e w9 ⟨rfl, hb9⟩
          have HB9 := Lib.hid (bnext HB8.out hb9)
          clear hb9
          go_wp2_with fail
          refine (HS.out _).mono ?_
          rintro e w10 ⟨rfl, hb10⟩
          have HB10 := Lib.hid (bnext HB.out (bnext HB9.out hb10))
          clear hb10
          go_wp2_with fail
          go_ret
          exact ⟨rfl, HB10.out⟩
end Go.Proofs.YtdbfjcdglcagaaaDoor
