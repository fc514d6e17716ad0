/- The walk of the law SlotsTwins: a clone, and what is loaded of what is told, go on alike, and by themselves; it writes nothing that was there. -/
import Derived.Test.YtmmbopaieffgeaaDoorSTwinsA
import Derived.Test.YtmmbopaieffgeaaDoorSLoadP
import Derived.Test.YtmmbopaieffgeaaDoorSAllR
import Derived.Test.YtmmbopaieffgeaaDoorSSame
namespace Go.Proofs.YtmmbopaieffgeaaDoor
open Go.RowKit

set_option maxHeartbeats 16000000 in
set_option maxRecDepth 200000 in
theorem twins_ok (n : Nat) (v v2 : Value) (l more : List (Int × Int × Int)) (w : World) (hg : LaidAt w) (hv : OpsAt w v l) (hv2 : OpsAt w v2 more) (n1 : 1 ≤ n) (n4 : n ≤ 4096) :
    Calls Tryd.prog 7 #[.int .i64 n, v, v2] w fun e w' => e = .returned (.bool true) ∧ Below w.heap.size w w' := by
  obtain ⟨i0, hi, hz0, hz1, hz2⟩ := info_parts Tryd.info3
  have HP := Lib.hid (fun w => pnew_ok 2 n w (by omega) (by omega) n1 n4)
  have HR := Lib.hid (fun S w hS => rnew_ok S 2 n w hS (by omega) (by omega) n1 n4)
  have HA := Lib.hid (new_good (kind := 2) (by omega) (by omega) n1 n4)
  have HG := Lib.hid hg
  have HM := Lib.hid hv2
  obtain ⟨pl, cpl, rfl, hm, hops⟩ := hv
  obtain ⟨pm, cpm, rfl, hmm, hops2⟩ := hv2
  have HO2 := Lib.hid hops2
  have HO := Lib.hid hops
  clear hg hops hops2
  go_enter Tryd.func7, Tryd.ntmps7
  go_wp2_with fail
  refine (HP.out _).mono ?_
  rintro e w1 ⟨S, v, rfl, hpt, hb1⟩
  have HL := Lib.hid hpt.lt
  have HPT := Lib.hid hpt
  have HB1 := Lib.hid hb1
  obtain ⟨b, _, _, _, _, _, _, rfl, _, hSx⟩ := hpt
  clear hSx hb1
  go_wp2_with fail
  refine (HR.out S _ (fun y hy => (HL.out y hy).2)).mono ?_
  rintro e w2 ⟨gs, ts, ls, rfl, hrt, hb2⟩
  obtain ⟨pg, cg, qt, ct, rl, cl, rfl, rfl, rfl⟩ := hrt.shapes
  have HRT := Lib.hid hrt
  have HB2 := Lib.hid hb2
  clear hrt hb2
  have HPL := Lib.hid (Play.start HA.out (HPT.out.below HB2.out) HRT.out)
  have HW0 := Lib.hid (below_alloc (bnext HB1.out HB2.out) (.cells #[.int .i64 (Tab.new 2 n).kind, .slice pg (Tab.new 2 n).gens.length cg, .slice qt (Tab.new 2 n).taken.length ct, .slice rl (Tab.new 2 n).list.length cl] 30))
  have hR := HB2.out.size
  have hR1 := HB1.out.size
  have hg0 := HG.out.pos
  have HLW := Lib.hid (HG.out.below HW0.out)
  have hSw : ∀ y, S y → w.heap.size ≤ y := fun y hy => (HL.out y hy).1
  have HSW := Lib.hid hSw
  clear hSw HPT HRT HL
  go_upto_region 6 with fail
  generalize w2.alloc (.cells #[.int .i64 (Tab.new 2 n).kind, .slice pg (Tab.new 2 n).gens.length cg, .slice qt (Tab.new 2 n).taken.length ct, .slice rl (Tab.new 2 n).list.length cl] 30) = W0 at *
  clear HB1 HB2
  generalize hR2 : w2.heap.size = R at *
  clear hR2
  go_loopw [11] (fun i wr => ∃ (A : Tab) (k : Nat) (gs ts ls : Value), k ≤ l.length ∧ i = .int .i64 k ∧ Hid (Play S w.heap.size R W0 wr (Tab.new 2 n) A (.pointer (some ⟨b, 0, none⟩)) gs ts ls)) (fun i _ => l.length - (intOf i).toNat)
  case atStart => exact ⟨_, 0, _, _, _, Nat.zero_le _, rfl, HPL⟩
  case round =>
    obtain ⟨A, k, gs, ts, ls, hk, rfl, HK⟩ := hrel
    by_cases hlt : k < l.length ∧ k < 100
    · obtain ⟨hlt, h400⟩ := hlt
      obtain ⟨⟨ka, hb, xc⟩, hel⟩ : ∃ q, l[k]? = some q := ⟨_, List.getElem?_eq_getElem hlt⟩
      obtain ⟨b1, o1, rfl, hd0, hd1, hd2⟩ := HO.out k ka hb xc hel
      have hbl := cell_lt hd0
      simp only at hbl
      have hnS : ¬ (S b1 ∨ b1 = R) := fun c => by rcases c with c | c; have := HSW.out b1 c; omega; omega
      have hcl : ∀ o, wr.cell? ⟨b1, o, none⟩ = w.cell? ⟨b1, o, none⟩ := fun o => (HK.out.kp.cell (p := ⟨b1, o, none⟩) (Nat.lt_of_lt_of_le hbl HW0.out.size) hnS).trans (HW0.out.cell (p := ⟨b1, o, none⟩) hbl)
      have c0 := (hcl _).trans hd0
      have c1 := (hcl _).trans hd1
      have c2 := (hcl _).trans hd2
      have x0 := HK.out.x0
      have x1 := HK.out.x1
      have x2 := HK.out.x2
      have x3 := HK.out.x3
      obtain ⟨pg', cg', qt', ct', rl', cl', rfl, rfl, rfl⟩ := HK.out.rt.shapes
      have HST := Lib.hid (step_any S (fun y => S y ∨ y = R) w.heap.size A HK.out.ok.good ka hb xc _ _ _ _ _ (HK.out.stepIn wr.drew ((Keeps.refl _ wr).drew) (by omega) (by omega) HLW.out))
      have z0 : (0 : Int) ≤ (k : Int) := by omega
      have z1 : (k : Int) < (l.length : Int) := by omega
      have z2 : (k : Int) < 100 := by omega
      have HCC := Lib.hid (show ∀ w3, Keeps S wr.drew w3 → (w3.cell? ⟨R, 0, none⟩ = some (.int .i64 A.kind) ∧ w3.cell? ⟨R, 1, none⟩ = some (.slice pg' A.gens.length cg') ∧ w3.cell? ⟨R, 2, none⟩ = some (.slice qt' A.taken.length ct') ∧ w3.cell? ⟨R, 3, none⟩ = some (.slice rl' A.list.length cl') ∧ (∀ j, w3.frozen? ⟨R, j, none⟩ = false)) from fun w3 hk =>
        have hRl := HK.out.lt
        have hnr := HK.out.nr
        ⟨(hk.cell (p := ⟨R, 0, none⟩) hRl hnr).trans x0, (hk.cell (p := ⟨R, 1, none⟩) hRl hnr).trans x1, (hk.cell (p := ⟨R, 2, none⟩) hRl hnr).trans x2, (hk.cell (p := ⟨R, 3, none⟩) hRl hnr).trans x3, fun j => (World.frozen?_of_block (hk.block R hRl hnr)).trans (HK.out.fr j)⟩)
      clear hd0 hd1 hd2 hcl hel
      go_upto_region 8 with fail
      go_region_with ((go_at_call 13; refine HST.out.mono ?_; rintro e w3 ⟨A', hok3, gs3, ts3, ls3, rfl, hpt3, hrt3, hk3⟩; obtain ⟨pg3, cg3, qt3, ct3, rl3, cl3, rfl, rfl, rfl⟩ := hrt3.shapes; have HPT3 := Lib.hid hpt3; have HRT3 := Lib.hid hrt3; have HOK3 := Lib.hid hok3; have HK3 := Lib.hid hk3; clear hpt3 hrt3 hok3 hk3; obtain ⟨y0, y1, y2, y3, yf⟩ := HCC.out w3 HK3.out))
      all_goals
        go_wp2_with fail
        go_roundw
        case rel => exact ⟨A', k + 1, _, _, _, by omega, by go_num, Lib.hid (HK.out.next HOK3.out HPT3.out HRT3.out (Keeps.trans ((Keeps.refl S wr).drew) HK3.out) _ rfl)⟩
        case measure => simp [intOf]; omega
    · have hbr : ¬ (k < l.length) ∨ (k < l.length ∧ (100 : Int) ≤ (k : Int)) := by
        by_cases h4 : k < l.length
        · exact .inr ⟨h4, by omega⟩
        · exact .inl h4
      clear hlt
      have z0 : (0 : Int) ≤ (k : Int) := by omega
      go_upto_region 6 with fail
      go_cut [63] (fun s63 wx => s63 = .bool false ∧ wr = wx)
      case first =>
        rcases hbr with h4 | ⟨h4, h5⟩
        all_goals
          go_wp2_with fail
          go_meet
          exact ⟨by first | rfl | (refine congrArg Value.bool ?_; simp; omega), rfl⟩
      case rest =>
        obtain ⟨rfl, rfl⟩ := hcut
        obtain ⟨pg', cg', qt', ct', rl', cl', rfl, rfl, rfl⟩ := HK.out.rt.shapes
        have hok := HK.out.ok
        have HZ := Lib.hid (hok.zf (zf_new 2 n))
        have HGD := Lib.hid hok.good
        have hkd : A.kind = 2 := hok.kind
        have hgl : A.gens.length = n := hok.len.trans (by simp [Tab.new])
        have HCL := Lib.hid (pclone S w.heap.size A HGD.out wr _ HK.out.pt)
        have HWR := Lib.hid (below_keeps HW0.out HK.out.kp (fun y hy => by rcases hy with hy | rfl; exact HSW.out y hy; omega))
        have HKD := Lib.hid hkd
        have HGL := Lib.hid hgl
        clear hbr hok hkd hgl hk z0
        go_wp2_with fail
        refine HCL.out.mono ?_
        rintro e w3 ⟨S2, vt, rfl, hpt3, hb3⟩
        have HL2 := Lib.hid hpt3.lt
        have HPT2 := Lib.hid hpt3
        have HB3 := Lib.hid hb3
        obtain ⟨b2, _, _, _, _, _, _, rfl, _, hSx⟩ := hpt3
        clear hSx hb3
        have HSL := Lib.hid (pslots (fun _ => False) S w.heap.size A HGD.out w3 _ (HK.out.pt.below HB3.out) (fun _ k => k.elim))
        go_wp2_with fail
        refine HSL.out.mono ?_
        rintro e w4 ⟨gv, tv, rfl, hgv, htv, hb4⟩
        have HGV := Lib.hid hgv
        have HTV := Lib.hid htv
        have HB4 := Lib.hid (bnext HB3.out hb4)
        have HB34 := Lib.hid hb4
        clear hgv htv hb4
        have HAL := Lib.hid ((pall (fun _ => False) S w.heap.size A HGD.out w4 _ (HK.out.pt.below HB4.out) (fun _ k => k.elim)).mono fun _ _ h => allPost_shape h)
        go_wp2_with fail
        refine HAL.out.mono ?_
        rintro e w5 ⟨pa, ca, rfl, hla, hb5⟩
        have HLA := Lib.hid hla
        have HB45 := Lib.hid hb5
        have HB5 := Lib.hid (bnext HB4.out hb5)
        clear hla hb5
        have HPT5 := Lib.hid (fun (W : World) (hb : Below w5.heap.size w5 W) => HK.out.pt.below (bnext HB5.out hb))
        have hml := idxs_le A
        have hmn : A.idxs.length ≤ 4096 := by have := HGL.out; omega
        obtain ⟨_, _, epa, _, hlc⟩ := HLA.out
        injection epa with epa epb epc
        subst epa
        clear epb epc
        have HLC := Lib.hid hlc
        clear hlc
        obtain ⟨Wr0, rfl⟩ : ∃ Wr0 : World, Wr0 = wr := ⟨_, rfl⟩
        go_wp2_with fail
        go_loopw [15, 17, 18, 19] (fun x i _ _ wq => ∃ j : Nat, j ≤ A.idxs.length ∧ i = .int .i64 j ∧ Hid (wq.ownsRow w5.heap.size 3 1 x j (ints (thingsTo A j))) ∧ Below w5.heap.size w5 wq) (fun _ i _ _ _ => A.idxs.length - (intOf i).toNat)
        case atStart => exact ⟨0, Nat.zero_le _, rfl, Lib.hid (World.ownsRow_nil _ _ _ _), Below.refl _ _⟩
        case round =>
          obtain ⟨j, hj, rfl, HX, hbq⟩ := hrel
          by_cases hjl : j < A.idxs.length
          · obtain ⟨ix, hix⟩ : ∃ ix, A.idxs[j]? = some ix := ⟨_, List.getElem?_eq_getElem hjl⟩
            obtain ⟨hxl, hxt⟩ := idxs_mem hix
            obtain ⟨b5, o5, hp5, _, hd5⟩ := HLC.out j (.int .i64 (A.hd ix)) (by unfold ints; rw [List.getElem?_map, all_at hix]; rfl)
            subst hp5
            have hc5 : wr.cell? ⟨b5, o5 + j, none⟩ = some (.int .i64 (A.hd ix)) := (hbq.cell (p := ⟨b5, o5 + j, none⟩) (cell_lt hd5)).trans hd5
            have hget := pget S w.heap.size A HGD.out wr _ (HPT5.out wr hbq) (A.hd ix)
            rw [show getV A (A.hd ix) = A.v ix by unfold getV; rw [find_hd HGD.out hxl hxt], show errV (getN A (A.hd ix)) = .nilIface by unfold getN; rw [find_hd HGD.out hxl hxt]; rfl] at hget
            have HGET := Lib.hid hget
            have HIX := Lib.hid hix
            have hsz := hbq.size
            clear hget hix hd5
            have z0 : (0 : Int) ≤ (j : Int) := by omega
            have z1 : (j : Int) < (A.idxs.length : Int) := by omega
            go_wp2_with fail
            refine HGET.out.mono ?_
            rintro e w6 ⟨rfl, hb6⟩
            have HX6 := Lib.hid (own_below HX.out hb6)
            have hbq6 : Below w5.heap.size w5 w6 := bnext hbq hb6
            have hsz6 := hbq6.size
            go_wp2_with (at_builtin; refine wpList_append_own _ rfl _ _ 27 rfl w5.heap.size 3 i0 (.int .i64 0) 1 8 Tryd.underlying27 hi hz0 hz1 hz2 rfl (by decide) _ _ _ rfl (HX6.out.alloc _) ⟨w6.heap.size, 0, none⟩ 1 1 [.int .i64 (A.v ix)] rfl rfl ?a1 ?a2 ?a3 ?a4 ?a5 ?_)
            case a1 => exact news_one w6 _ _
            case a2 => intro u hu; simp at hu; subst hu; rfl
            case a3 => unfold maxLen; omega
            case a4 => omega
            case a5 => simp; omega
            intro v' w7 hown7 hgrow7 _
            have HO7 := Lib.hid (show w7.ownsRow w5.heap.size 3 1 v' (j + 1) (ints (thingsTo A (j + 1))) by
              rw [things_succ HIX.out, ← ints_snoc]; exact hown7)
            have HB7 : Below w5.heap.size w5 w7 := (below_alloc hbq6 _).grown hgrow7 (by simp; omega) (fun g e => (HX6.out.lt g e).1)
            clear hown7 hgrow7
            go_wp2_with fail
            go_roundw
            case rel => exact ⟨j + 1, by omega, by go_num, HO7, HB7⟩
            case measure => simp [intOf]; omega
          · obtain rfl : j = A.idxs.length := by omega
            have hox := HX.out
            rw [things_all] at hox
            obtain ⟨px, cx, hx⟩ := own_shape hox (by rw [ints_len, List.length_map])
            subst hx
            have hgl := HGL.out
            have HLD := Lib.hid (pload_ok (fun _ => False) 2 A.gens A.taken (A.idxs.map A.v) gv tv (.slice px A.idxs.length cx) wr (HGV.out.below (bnext HB45.out hbq)) (HTV.out.below (bnext HB45.out hbq)) (Lst.of_own hox (by rw [ints_len, List.length_map]) (by omega) (fun _ _ _ k => k)) (by omega) (by omega) (by omega) (by omega) HGD.out.lt (stand_self HGD.out) (rank_self HGD.out))
            have HTL := Lib.hid (show Tab.load 2 A.gens A.taken (A.idxs.map A.v) = A by rw [← HKD.out]; exact load_self HGD.out HZ.out)
            clear hox
            go_wp2_with fail
            refine HLD.out.mono ?_
            rintro e w6 ⟨S3, va, rfl, hpt6, hb6⟩
            rw [HTL.out] at hpt6
            have HPT6 := Lib.hid hpt6
            have HB6 := Lib.hid hb6
            have HBW := Lib.hid (bnext HB5.out (bnext hbq hb6))
            obtain ⟨b3, _, _, _, _, _, _, rfl, _, hSx⟩ := hpt6
            have hRl := HK.out.lt
            have x0 : w6.cell? ⟨R, 0, none⟩ = _ := (HBW.out.cell (p := ⟨R, 0, none⟩) hRl).trans HK.out.x0
            have x1 : w6.cell? ⟨R, 1, none⟩ = _ := (HBW.out.cell (p := ⟨R, 1, none⟩) hRl).trans HK.out.x1
            have x2 : w6.cell? ⟨R, 2, none⟩ = _ := (HBW.out.cell (p := ⟨R, 2, none⟩) hRl).trans HK.out.x2
            have x3 : w6.cell? ⟨R, 3, none⟩ = _ := (HBW.out.cell (p := ⟨R, 3, none⟩) hRl).trans HK.out.x3
            have hR6 : R < w6.heap.size := Nat.lt_of_lt_of_le hRl HBW.out.size
            have HY := Lib.hid (show ∀ W, Below w6.heap.size w6 W → (W.cell? ⟨R, 0, none⟩ = some (.int .i64 A.kind) ∧ W.cell? ⟨R, 1, none⟩ = some (.slice pg' A.gens.length cg') ∧ W.cell? ⟨R, 2, none⟩ = some (.slice qt' A.taken.length ct') ∧ W.cell? ⟨R, 3, none⟩ = some (.slice rl' A.list.length cl') ∧ Below w6.heap.size w6 W) from fun W hW =>
              ⟨(hW.cell (p := ⟨R, 0, none⟩) hR6).trans x0, (hW.cell (p := ⟨R, 1, none⟩) hR6).trans x1, (hW.cell (p := ⟨R, 2, none⟩) hR6).trans x2, (hW.cell (p := ⟨R, 3, none⟩) hR6).trans x3, hW⟩)
            clear hSx hb6 HLD HTL hgl x0 x1 x2 x3
            go_upto_region 21 with fail
            go_cut [22, 23] (fun s22 s23 wx => ∃ ra rb, s22 = .pointer (some ⟨ra, 0, none⟩) ∧ s23 = .pointer (some ⟨rb, 0, none⟩) ∧ Has wx ra (.cells #[.int .i64 A.kind, .slice pg' A.gens.length cg', .slice qt' A.taken.length ct', .slice rl' A.list.length cl'] 30) ∧ Has wx rb (.cells #[.int .i64 A.kind, .slice pg' A.gens.length cg', .slice qt' A.taken.length ct', .slice rl' A.list.length cl'] 30) ∧
              ra ≠ rb ∧ w6.heap.size ≤ ra ∧ w6.heap.size ≤ rb ∧ Below w6.heap.size w6 wx)
            case first =>
              go_region_held3 (fun w' => w'.cell? ⟨R, 0, none⟩ = some (.int .i64 A.kind) ∧ w'.cell? ⟨R, 1, none⟩ = some (.slice pg' A.gens.length cg') ∧ w'.cell? ⟨R, 2, none⟩ = some (.slice qt' A.taken.length ct') ∧ w'.cell? ⟨R, 3, none⟩ = some (.slice rl' A.list.length cl') ∧ Below w6.heap.size w6 w')
                (exact HY.out _ (by repeat (first | exact Below.refl _ _ | refine below_drew ?_ | refine below_alloc ?_ _ | refine Below.setCell ?_ (by simp) _)))
                (trivial)
              all_goals
                go_split_ands
                go_wp2_with fail
                go_meet
                refine' ⟨_, _, rfl, rfl, has_drew ?_, has_drew ?_, by omega, by omega, by omega, below_drew (below_alloc (below_alloc (Below.refl _ _) _) _)⟩
                · first | exact has_old (has_new w6 _ w6.heap.size rfl) _ | exact has_new (w6.alloc _) _ (w6.heap.size + 1) (by simp)
                · first | exact has_old (has_new w6 _ w6.heap.size rfl) _ | exact has_new (w6.alloc _) _ (w6.heap.size + 1) (by simp)
            case rest =>
              obtain ⟨Wc, rfl⟩ : ∃ Wc : World, Wc = wc := ⟨_, rfl⟩
              obtain ⟨ra, rb, rfl, rfl, hra, hrb, hab, l1, l2, hbx⟩ := hcut
              have hB0C : Below Wr0.heap.size Wr0 Wc := bnext HBW.out hbx
              have hB6C : Below w6.heap.size w6 Wc := hbx
              have hB3C : Below w3.heap.size w3 Wc := bnext (bnext HB34.out (bnext HB45.out hbq)) (bnext HB6.out hbx)
              have s03 := HB3.out.size
              have s34 := HB34.out.size
              have s45 := HB45.out.size
              have s5 := HB5.out.size
              have s6 := HB6.out.size
              have sq := hbq.size
              have sc := hbx.size
              have swr := HWR.out.size
              have sra := has_lt hra
              have srb := has_lt hrb
              obtain ⟨U, hU⟩ : ∃ U : Nat → Prop, U = fun y => S y ∨ S2 y ∨ S3 y ∨ y = R ∨ y = ra ∨ y = rb := ⟨_, rfl⟩
              have HAP := Lib.hid (apart_of hU (fun y k => (HK.out.pt.lt y k)) HK.out.nr hRl (by omega) HL2.out (by omega) HPT6.out.lt (by omega) (by omega) l1 l2 hab)
              have HUL := Lib.hid (show ∀ y, U y → y < Wc.heap.size by
                subst hU
                rintro y (k | k | k | k | k | k)
                · have := (HK.out.pt.lt y k).2; omega
                · have := (HL2.out y k).2; omega
                · have := (HPT6.out.lt y k).2; omega
                · omega
                · omega
                · omega)
              have hrt : RT U Wc A (.slice pg' A.gens.length cg') (.slice qt' A.taken.length ct') (.slice rl' A.list.length cl') := (HK.out.rt.mono (T := U) (fun y hy k => by
                subst hU
                rcases k with k | k | k | k | k | k
                · exact .inl k
                · have := (HL2.out y k).1; omega
                · have := (HPT6.out.lt y k).1; omega
                · exact .inr k
                · omega
                · omega)).below hB0C
              have hc : ∀ j, Wc.cell? ⟨R, j, none⟩ = Wr0.cell? ⟨R, j, none⟩ := fun j => hB0C.cell (p := ⟨R, j, none⟩) hRl
              have HP1 : Hid (Pair S U w.heap.size R Wc A (.pointer (some ⟨b, 0, none⟩)) (.slice pg' A.gens.length cg') (.slice qt' A.taken.length ct') (.slice rl' A.list.length cl')) :=
                Lib.hid ⟨HGD.out, HK.out.pt.below hB0C, hrt, (hc 0).trans HK.out.x0, (hc 1).trans HK.out.x1, (hc 2).trans HK.out.x2, (hc 3).trans HK.out.x3, fun j => (hB0C.frozen (p := ⟨R, j, none⟩) hRl).trans (HK.out.fr j)⟩
              have HP2 : Hid (Pair S2 U w.heap.size ra Wc A (.pointer (some ⟨b2, 0, none⟩)) (.slice pg' A.gens.length cg') (.slice qt' A.taken.length ct') (.slice rl' A.list.length cl')) :=
                Lib.hid ⟨HGD.out, (HPT2.out.base swr).below hB3C, hrt, has_cell hra 0, has_cell hra 1, has_cell hra 2, has_cell hra 3, has_free hra⟩
              have HP3 : Hid (Pair S3 U w.heap.size rb Wc A (.pointer (some ⟨b3, 0, none⟩)) (.slice pg' A.gens.length cg') (.slice qt' A.taken.length ct') (.slice rl' A.list.length cl')) :=
                Lib.hid ⟨HGD.out, (HPT6.out.base (by omega)).below hB6C, hrt, has_cell hrb 0, has_cell hrb 1, has_cell hrb 2, has_cell hrb 3, has_free hrb⟩
              have HWC := Lib.hid (bnext HWR.out hB0C)
              have HLC := Lib.hid (HG.out.below HWC.out)
              have hba : ¬ rb = ra := fun e => hab e.symm
              clear hU hrt hc hra hrb hbx hB0C hB6C hB3C s03 s34 s45 s5 s6 sq sc swr sra srb HBW HB6 HPT6 HPT5 HPT2 HX HY HZ HK HWR HSL HGV HTV HLA HB3 HB4 HB5 HB34 HB45 HAL
              go_wp2_with fail
              go_loopw [24, 25, 26, 27, 28] (fun i _ _ _ _ wr => ∃ (A2 A3 : Tab) (k : Nat) (ga ta la gb tb lb : Value), k ≤ more.length ∧ i = .int .i64 k ∧ Hid (Pair S U w.heap.size R wr A (.pointer (some ⟨b, 0, none⟩)) (.slice pg' A.gens.length cg') (.slice qt' A.taken.length ct') (.slice rl' A.list.length cl')) ∧
                Hid (Pair S2 U w.heap.size ra wr A2 (.pointer (some ⟨b2, 0, none⟩)) ga ta la) ∧ Hid (Pair S3 U w.heap.size rb wr A3 (.pointer (some ⟨b3, 0, none⟩)) gb tb lb) ∧ Hid (Keeps U Wc wr)) (fun i _ _ _ _ _ => more.length - (intOf i).toNat)
              case atStart => exact ⟨A, A, 0, _, _, _, _, _, _, Nat.zero_le _, rfl, HP1, HP2, HP3, Lib.hid (Keeps.refl _ _)⟩
              case round =>
                obtain ⟨A2, A3, k, ga, ta, la, gb, tb, lb, hk, rfl, H1, H2, H3, HKU⟩ := hrel
                clear HP1 HP2 HP3
                by_cases hlt : k < more.length ∧ k < 100
                · obtain ⟨hlt, h400⟩ := hlt
                  obtain ⟨⟨ka, hb, xc⟩, hel⟩ : ∃ q, more[k]? = some q := ⟨_, List.getElem?_eq_getElem hlt⟩
                  obtain ⟨b1, o1, rfl, hd0, hd1, hd2⟩ := HO2.out k ka hb xc hel
                  have hbl := cell_lt hd0
                  simp only at hbl
                  have hnU : ¬ U b1 := fun c => by have := HAP.out.low b1 c; omega
                  have hcl : ∀ o, wr.cell? ⟨b1, o, none⟩ = w.cell? ⟨b1, o, none⟩ := fun o => (HKU.out.cell (p := ⟨b1, o, none⟩) (Nat.lt_of_lt_of_le hbl HWC.out.size) hnU).trans (HWC.out.cell (p := ⟨b1, o, none⟩) hbl)
                  have c0 := (hcl _).trans hd0
                  have c1 := (hcl _).trans hd1
                  have c2 := (hcl _).trans hd2
                  obtain ⟨pga, cga, qta, cta, rla, cla, rfl, rfl, rfl⟩ := H2.out.rt.shapes
                  obtain ⟨pgb, cgb, qtb, ctb, rlb, clb, rfl, rfl, rfl⟩ := H3.out.rt.shapes
                  have hsw := HKU.out.size
                  have hscw := HWC.out.size
                  have hul : ∀ y, U y → y < wr.heap.size := fun y hy => Nat.lt_of_lt_of_le (HUL.out y hy) hsw
                  have hb1l : b1 < wr.heap.size := by omega
                  have HLR := Lib.hid (HLC.out.keeps HKU.out (fun c => by have := HAP.out.low 0 c; omega))
                  have HX := Lib.hid (twin_cells H2.out c0 c1 c2 hb1l (fun c => hnU (HAP.out.s2 _ c).1) (fun c => (HAP.out.s2 _ c).2.2.1 rfl))
                  have HST := Lib.hid (fun W (hW : Keeps (fun _ => False) wr W) => step_any S2 U w.heap.size A2 H2.out.good ka hb xc _ _ _ _ W (H2.out.stepIn hW (fun y c => (HAP.out.s2 y c).1) (fun y c => Nat.lt_of_lt_of_le (hul y c) hW.size) hg0 HLR.out))
                  have HST2 := Lib.hid (fun W (hW : Keeps (fun _ => False) wr W) (hl : wr.heap.size < W.heap.size) => step_any S2 (fun y => U y ∨ y = wr.heap.size) w.heap.size A2 H2.out.good ka hb xc _ _ _ _ W ((H2.out.stepIn hW (fun y c => (HAP.out.s2 y c).1) (fun y c => Nat.lt_of_lt_of_le (hul y c) hW.size) hg0 HLR.out).more wr.heap.size hl (H2.out.rt.fresh) hW))
                  have hS2l : ∀ y, S2 y → y < wr.heap.size := fun y c => hul y (HAP.out.s2 y c).1
                  have HZ := Lib.hid (fun o => (fun W (hk : Keeps S2 (wr.drew.alloc (.cells #[.int .i64 0, .slice none 0 0, .slice none 0 0, .slice none 0 0] o)) W) => fresh4 (S := S2) (T := o) (.int .i64 0) (.slice none 0 0) (.slice none 0 0) (.slice none 0 0) hk (fun c => by have := hS2l _ c; omega)))
                  have HSL := Lib.hid hS2l
                  have HC3 := Lib.hid (fun W (hk : Keeps S2 wr W) => (⟨(hk.cell (p := ⟨b1, o1 + k * 3, none⟩) hb1l (fun c => hnU (HAP.out.s2 _ c).1)).trans c0, (hk.cell (p := ⟨b1, o1 + k * 3 + 1, none⟩) hb1l (fun c => hnU (HAP.out.s2 _ c).1)).trans c1, (hk.cell (p := ⟨b1, o1 + k * 3 + 2, none⟩) hb1l (fun c => hnU (HAP.out.s2 _ c).1)).trans c2⟩ : _ ∧ _ ∧ _))
                  have z0 : (0 : Int) ≤ (k : Int) := by omega
                  have z1 : (k : Int) < (more.length : Int) := by omega
                  have z2 : (k : Int) < 100 := by omega
                  have HNU := Lib.hid hnU
                  clear hd0 hd1 hd2 hcl c0 c1 c2 hel hS2l hul hsw hscw hnU
                  go_upto_region 25 with fail
                  go_cut [25, 26] (fun s25 s26 wx => Cut3 S2 U w.heap.size wr (.pointer (some ⟨b2, 0, none⟩)) s25 s26 wx)
                  case first =>
                    go_region_held3 (fun w' => w'.cell? ⟨ra, 0, none⟩ = some (.int .i64 A2.kind) ∧ w'.cell? ⟨ra, 1, none⟩ = some (.slice pga A2.gens.length cga) ∧ w'.cell? ⟨ra, 2, none⟩ = some (.slice qta A2.taken.length cta) ∧ w'.cell? ⟨ra, 3, none⟩ = some (.slice rla A2.list.length cla) ∧
                        w'.cell? ⟨b1, o1 + k * 3, none⟩ = some (.int .i64 ka) ∧ w'.cell? ⟨b1, o1 + k * 3 + 1, none⟩ = some (.int .i64 hb) ∧ w'.cell? ⟨b1, o1 + k * 3 + 2, none⟩ = some (.int .i64 xc) ∧ Keeps S2 wr w')
                      (first | exact HX.out _ (Keeps.refl _ _) | exact HX.out _ (Keeps.refl _ _).drew | exact HX.out _ ((Keeps.refl _ _).drew.alloc _) | exact HX.out _ ((Keeps.refl _ _).alloc _) | (go_split_ands; exact HX.out _ (Keeps.trans (by assumption) hk3)) | exact HX.out _ ((Keeps.trans ((Keeps.refl S2 wr).drew) hk3).alloc _) | exact HX.out _ (keeps_new4 (Keeps.trans ((Keeps.refl S2 wr).drew.alloc _) hk3) _ (Nat.le_refl _) _ _ _ _))
                      (first
                        | (go_at_call 13; refine (HST2.out _ ((Keeps.refl _ _).drew.alloc _) (by simp)).mono ?_; rintro e w3 ⟨A', hok3, gs3, ts3, ls3, rfl, hpt3, hrt3, hk3⟩; obtain ⟨pg3, cg3, qt3, ct3, rl3, cl3, rfl, rfl, rfl⟩ := hrt3.shapes; have HPT3 := Lib.hid hpt3; have HRT3 := Lib.hid hrt3; have HOK3 := Lib.hid hok3; clear hpt3 hrt3 hok3; obtain ⟨y0, y1, y2, y3, yf⟩ := HZ.out _ _ hk3)
                        | (go_at_call 13; refine (HST.out _ ((Keeps.refl _ _).drew)).mono ?_; rintro e w3 ⟨A', hok3, gs3, ts3, ls3, rfl, hpt3, hrt3, hk3⟩; obtain ⟨pg3, cg3, qt3, ct3, rl3, cl3, rfl, rfl, rfl⟩ := hrt3.shapes; have HPT3 := Lib.hid hpt3; have HRT3 := Lib.hid hrt3; have HOK3 := Lib.hid hok3; clear hpt3 hrt3 hok3))
                    all_goals
                      go_wp2_with fail
                      go_meet
                    · exact cut3_1 HOK3.out.good HPT3.out HRT3.out hk3
                    · exact cut3_2 HSL.out HOK3.out.good HPT3.out HRT3.out hk3 y0 y1 y2 y3
                  case rest =>
                    obtain ⟨W5, rfl⟩ : ∃ W5 : World, W5 = wc := ⟨_, rfl⟩
                    obtain ⟨A2', p5, cp5, q5, cq5, r5, cr5, bx, rfl, rfl, hok5, hpt5, hrt5, hk5, y0, y1, y2, y3, hbx, hbx2⟩ := hcut
                    have HG5 := Lib.hid hok5
                    have HPT5 := Lib.hid hpt5
                    have HRT5 := Lib.hid hrt5
                    have HK5 := Lib.hid hk5
                    have HY := Lib.hid (⟨y0, y1, y2, y3⟩ : _ ∧ _ ∧ _ ∧ _)
                    obtain ⟨c0, c1, c2⟩ := HC3.out W5 hk5
                    have hs5 := hk5.size
                    have hsw := HKU.out.size
                    have H35 := Lib.hid (H3.out.keeps hk5 (fun y c => (HAP.out.s2 y c).1) (fun y c d => HAP.out.d23 y d c) (fun c => (HAP.out.s2 _ c).2.2.2 rfl))
                    have hb5l : b1 < W5.heap.size := Nat.lt_of_lt_of_le hb1l hs5
                    have hul : ∀ y, U y → y < wr.heap.size := fun y hy => Nat.lt_of_lt_of_le (HUL.out y hy) hsw
                    have hul5 : ∀ y, U y → y < W5.heap.size := fun y hy => Nat.lt_of_lt_of_le (hul y hy) hs5
                    have HLR5 := Lib.hid (HLR.out.keeps hk5 (fun c => by have := HAP.out.low 0 (HAP.out.s2 _ c).1; omega))
                    have HX5 := Lib.hid (twin_cells H35.out c0 c1 c2 hb5l (fun c => HNU.out (HAP.out.s3 _ c).1) (fun c => (HAP.out.s3 _ c).2.2.2 rfl))
                    have HSU := Lib.hid (fun W (hW : Keeps (fun _ => False) W5 W) => step_any S3 U w.heap.size A3 H35.out.good ka hb xc _ _ _ _ W (H35.out.stepIn hW (fun y c => (HAP.out.s3 y c).1) (fun y c => Nat.lt_of_lt_of_le (hul5 y c) hW.size) hg0 HLR5.out))
                    have HSU2 := Lib.hid (fun W (hW : Keeps (fun _ => False) W5 W) (hl : W5.heap.size < W.heap.size) => step_any S3 (fun y => U y ∨ y = W5.heap.size) w.heap.size A3 H35.out.good ka hb xc _ _ _ _ W ((H35.out.stepIn hW (fun y c => (HAP.out.s3 y c).1) (fun y c => Nat.lt_of_lt_of_le (hul5 y c) hW.size) hg0 HLR5.out).more W5.heap.size hl (H35.out.rt.fresh) hW))
                    have hS3l : ∀ y, S3 y → y < W5.heap.size := fun y c => hul5 y (HAP.out.s3 y c).1
                    have HZ5 := Lib.hid (fun o => (fun W (hk : Keeps S3 (W5.drew.alloc (.cells #[.int .i64 0, .slice none 0 0, .slice none 0 0, .slice none 0 0] o)) W) => fresh4 (S := S3) (T := o) (.int .i64 0) (.slice none 0 0) (.slice none 0 0) (.slice none 0 0) hk (fun c => by have := hS3l _ c; omega)))
                    have HSL5 := Lib.hid hS3l
                    have HBX := Lib.hid (show ¬ S3 bx from fun c => by have := hul bx (HAP.out.s3 _ c).1; omega)
                    clear hok5 hpt5 hrt5 hk5 y0 y1 y2 y3 c0 c1 c2 hs5 hsw hul hul5 hS3l HX HST HST2 HZ HSL HC3
                    go_upto_region 26 with fail
                    go_cut [27, 28] (fun s27 s28 wx => Cut3 S3 U w.heap.size W5 (.pointer (some ⟨b3, 0, none⟩)) s27 s28 wx)
                    case first =>
                      go_region_held3 (fun w' => w'.cell? ⟨rb, 0, none⟩ = some (.int .i64 A3.kind) ∧ w'.cell? ⟨rb, 1, none⟩ = some (.slice pgb A3.gens.length cgb) ∧ w'.cell? ⟨rb, 2, none⟩ = some (.slice qtb A3.taken.length ctb) ∧ w'.cell? ⟨rb, 3, none⟩ = some (.slice rlb A3.list.length clb) ∧
                        w'.cell? ⟨b1, o1 + k * 3, none⟩ = some (.int .i64 ka) ∧ w'.cell? ⟨b1, o1 + k * 3 + 1, none⟩ = some (.int .i64 hb) ∧ w'.cell? ⟨b1, o1 + k * 3 + 2, none⟩ = some (.int .i64 xc) ∧ Keeps S3 W5 w')
                        (first | exact HX5.out _ (Keeps.refl _ _) | exact HX5.out _ (Keeps.refl _ _).drew | exact HX5.out _ ((Keeps.refl _ _).drew.alloc _) | exact HX5.out _ ((Keeps.refl _ _).alloc _) | (go_split_ands; exact HX5.out _ (Keeps.trans (by assumption) hk3)) | exact HX5.out _ ((Keeps.trans ((Keeps.refl S3 W5).drew) hk3).alloc _) | exact HX5.out _ (keeps_new4 (Keeps.trans ((Keeps.refl S3 W5).drew.alloc _) hk3) _ (Nat.le_refl _) _ _ _ _))
                        (first
                          | (go_at_call 13; refine (HSU2.out _ ((Keeps.refl _ _).drew.alloc _) (by simp)).mono ?_; rintro e w3 ⟨A', hok3, gs3, ts3, ls3, rfl, hpt3, hrt3, hk3⟩; obtain ⟨pg3, cg3, qt3, ct3, rl3, cl3, rfl, rfl, rfl⟩ := hrt3.shapes; have HPT3 := Lib.hid hpt3; have HRT3 := Lib.hid hrt3; have HOK3 := Lib.hid hok3; clear hpt3 hrt3 hok3; obtain ⟨y0, y1, y2, y3, yf⟩ := HZ5.out _ _ hk3)
                          | (go_at_call 13; refine (HSU.out _ ((Keeps.refl _ _).drew)).mono ?_; rintro e w3 ⟨A', hok3, gs3, ts3, ls3, rfl, hpt3, hrt3, hk3⟩; obtain ⟨pg3, cg3, qt3, ct3, rl3, cl3, rfl, rfl, rfl⟩ := hrt3.shapes; have HPT3 := Lib.hid hpt3; have HRT3 := Lib.hid hrt3; have HOK3 := Lib.hid hok3; clear hpt3 hrt3 hok3))
                      all_goals
                        go_wp2_with fail
                        go_meet
                      · exact cut3_1 HOK3.out.good HPT3.out HRT3.out hk3
                      · exact cut3_2 HSL5.out HOK3.out.good HPT3.out HRT3.out hk3 y0 y1 y2 y3
                    case rest =>
                      obtain ⟨W6, rfl⟩ : ∃ W6 : World, W6 = wc := ⟨_, rfl⟩
                      obtain ⟨A3', p6, cp6, q6, cq6, r6, cr6, by6, rfl, rfl, hok6, hpt6, hrt6, hk6, u0, u1, u2, u3, hby, hby2⟩ := hcut
                      have HG6 := Lib.hid hok6
                      have HPT6 := Lib.hid hpt6
                      have HRT6 := Lib.hid hrt6
                      have HK6 := Lib.hid hk6
                      have HK56 := Lib.hid ((HK5.out.mono (T := fun y => S2 y ∨ S3 y) (fun y c => .inl c)).trans (hk6.mono (fun y c => .inr c)))
                      have v0 := (hk6.cell (p := ⟨bx, 0, none⟩) hbx2 HBX.out).trans HY.out.1
                      have v1 := (hk6.cell (p := ⟨bx, 1, none⟩) hbx2 HBX.out).trans HY.out.2.1
                      have v2 := (hk6.cell (p := ⟨bx, 2, none⟩) hbx2 HBX.out).trans HY.out.2.2.1
                      have v3 := (hk6.cell (p := ⟨bx, 3, none⟩) hbx2 HBX.out).trans HY.out.2.2.2
                      have hsw := HKU.out.size
                      have n2 : ¬ (S2 ra ∨ S3 ra) := fun c => by
                        rcases c with c | c
                        · exact (HAP.out.s2 _ c).2.2.1 rfl
                        · exact (HAP.out.s3 _ c).2.2.1 rfl
                      have n3 : ¬ (S2 rb ∨ S3 rb) := fun c => by
                        rcases c with c | c
                        · exact (HAP.out.s2 _ c).2.2.2 rfl
                        · exact (HAP.out.s3 _ c).2.2.2 rfl
                      obtain ⟨d0, d1, d2, d3, df⟩ := H2.out.at HK56.out n2
                      obtain ⟨e0, e1, e2, e3, ef⟩ := H3.out.at HK56.out n3
                      have hxa : ¬ bx = ra := fun e => by have := HUL.out _ HAP.out.ur.2.1; omega
                      have hxb : ¬ bx = rb := fun e => by have := HUL.out _ HAP.out.ur.2.2; omega
                      have hya : ¬ by6 = ra := fun e => by have := HUL.out _ HAP.out.ur.2.1; omega
                      have hyb : ¬ by6 = rb := fun e => by have := HUL.out _ HAP.out.ur.2.2; omega
                      have HXY := Lib.hid (two_held u0 u1 u2 u3 hby2 v0 v1 v2 v3 (Nat.lt_of_lt_of_le hbx2 hk6.size) hxa hxb hya hyb)
                      have HN := Lib.hid (fun u W2 h1 h2 => tri_next HAP.out H1.out H2.out H3.out HK56.out HG5.out (HPT5.out.keeps HK6.out (fun y c d => HAP.out.d23 y c d)) (HRT5.out.keeps2 HK6.out (fun y c => (HAP.out.s3 y c).1)) HG6.out HPT6.out HRT6.out u W2 h1 h2)
                      clear hok6 hpt6 hrt6 hk6 n2 n3 hsw HX5 HSU HSU2 HZ5 HSL5
                      go_upto_region 27 with fail
                      go_region_held3 (fun w' => w'.cell? ⟨bx, 0, none⟩ = some (.int .i64 A2'.kind) ∧ w'.cell? ⟨bx, 1, none⟩ = some (.slice p5 A2'.gens.length cp5) ∧ w'.cell? ⟨bx, 2, none⟩ = some (.slice q5 A2'.taken.length cq5) ∧ w'.cell? ⟨bx, 3, none⟩ = some (.slice r5 A2'.list.length cr5) ∧
                        w'.cell? ⟨by6, 0, none⟩ = some (.int .i64 A3'.kind) ∧ w'.cell? ⟨by6, 1, none⟩ = some (.slice p6 A3'.gens.length cp6) ∧ w'.cell? ⟨by6, 2, none⟩ = some (.slice q6 A3'.taken.length cq6) ∧ w'.cell? ⟨by6, 3, none⟩ = some (.slice r6 A3'.list.length cr6) ∧ Keeps (fun z => z = ra ∨ z = rb) W6 w')
                        (exact HXY.out _ (by repeat (first | with_reducible exact Keeps.refl _ _ | with_reducible refine Keeps.drew ?_ | with_reducible refine Keeps.setCell ?_ _ _ (Or.inl rfl) | with_reducible refine Keeps.setCell ?_ _ _ (Or.inr rfl))))
                        (trivial)
                      all_goals
                        go_split_ands
                        clear HXY d0 d1 d2 d3 df e0 e1 e2 e3 ef v0 v1 v2 v3 u0 u1 u2 u3
                        go_wp2_with fail
                        go_roundw
                        case rel =>
                          obtain ⟨q1, q2, q3, q4⟩ := HN.out _ _ rfl rfl
                          exact ⟨A2', A3', k + 1, _, _, _, _, _, _, by omega, by go_num, Lib.hid (q1.below (below_drew (Below.refl _ _))), Lib.hid (q2.below (below_drew (Below.refl _ _))), Lib.hid (q3.below (below_drew (Below.refl _ _))), Lib.hid (HKU.out.trans q4.drew)⟩
                        case measure => simp [intOf]; omega
                · have hbr : ¬ (k < more.length) ∨ (k < more.length ∧ (100 : Int) ≤ (k : Int)) := by
                    by_cases h4 : k < more.length
                    · exact .inr ⟨h4, by omega⟩
                    · exact .inl h4
                  clear hlt
                  have z0 : (0 : Int) ≤ (k : Int) := by omega
                  go_upto_region 23 with fail
                  go_cut [130] (fun s130 wx => s130 = .bool false ∧ wr = wx)
                  case first =>
                    rcases hbr with h4 | ⟨h4, h5⟩
                    all_goals
                      go_wp2_with fail
                      go_meet
                      exact ⟨by first | rfl | (refine congrArg Value.bool ?_; simp; omega), rfl⟩
                  case rest =>
                    obtain ⟨rfl, rfl⟩ := hcut
                    obtain ⟨pga, cga, qta, cta, rla, cla, rfl, rfl, rfl⟩ := H2.out.rt.shapes
                    obtain ⟨pgb, cgb, qtb, ctb, rlb, clb, rfl, rfl, rfl⟩ := H3.out.rt.shapes
                    have hul : ∀ y, U y → y < wr.heap.size := fun y hy => Nat.lt_of_lt_of_le (HUL.out y hy) HKU.out.size
                    have HUR := Lib.hid hul
                    have HBE := Lib.hid (below_keeps HWC.out HKU.out (fun y hy => HAP.out.low y hy))
                    have HS1 := Lib.hid (same_slots U S w.heap.size A H1.out.good _ _ _ _ wr H1.out.pt H1.out.rt HUR.out)
                    have HS2 := Lib.hid (fun W (hb : Below wr.heap.size wr W) => same_slots U S2 w.heap.size A2 H2.out.good _ _ _ _ W (H2.out.below hb).pt (H2.out.below hb).rt (fun y hy => Nat.lt_of_lt_of_le (HUR.out y hy) hb.size))
                    have HS3 := Lib.hid (fun W (hb : Below wr.heap.size wr W) => same_slots U S3 w.heap.size A3 H3.out.good _ _ _ _ W (H3.out.below hb).pt (H3.out.below hb).rt (fun y hy => Nat.lt_of_lt_of_le (HUR.out y hy) hb.size))
                    have x0 := H1.out.x0
                    have x1 := H1.out.x1
                    have x2 := H1.out.x2
                    have x3 := H1.out.x3
                    clear hul hbr
                    go_wp2_with fail
                    refine HS1.out.mono ?_
                    rintro e w4 ⟨rfl, hb4⟩
                    obtain ⟨y0, y1, y2, y3⟩ : _ ∧ _ ∧ _ ∧ _ := ⟨(H2.out.below hb4).x0, (H2.out.below hb4).x1, (H2.out.below hb4).x2, (H2.out.below hb4).x3⟩
                    have HB4 := Lib.hid hb4
                    clear hb4 x0 x1 x2 x3
                    go_wp2_with fail
                    refine (HS2.out _ HB4.out).mono ?_
                    rintro e w5 ⟨rfl, hb5⟩
                    have HB5 := Lib.hid (bnext HB4.out hb5)
                    obtain ⟨x0, x1, x2, x3⟩ : _ ∧ _ ∧ _ ∧ _ := ⟨(H3.out.below HB5.out).x0, (H3.out.below HB5.out).x1, (H3.out.below HB5.out).x2, (H3.out.below HB5.out).x3⟩
                    clear hb5 y0 y1 y2 y3
                    go_wp2_with fail
                    refine (HS3.out _ HB5.out).mono ?_
                    rintro e w6 ⟨rfl, hb6⟩
                    have HB6 := Lib.hid (bnext HB5.out hb6)
                    clear hb6 x0 x1 x2 x3
                    go_wp2_with fail
                    refine (sure_true _).mono ?_
                    rintro e w7 ⟨rfl, hb7⟩
                    go_wp2_with fail
                    go_ret
                    exact ⟨rfl, bnext (bnext HBE.out HB6.out) hb7⟩
end Go.Proofs.YtmmbopaieffgeaaDoor
