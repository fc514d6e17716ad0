/- The walk of the law SlotsLoads: it answers true for all slots and things, whatever is done then; it writes nothing that was there. -/
import Derived.Test.YtmmbopaieffgeaaDoorSLawPlays
import Derived.Test.YtmmbopaieffgeaaDoorSLoadR
namespace Go.Proofs.YtmmbopaieffgeaaDoor
open Go.RowKit

set_option maxHeartbeats 8000000 in
set_option maxRecDepth 100000 in
theorem loads_ok (kind : Int) (gens : List Int) (taken : List Bool) (things : List Int) (vg vt vh v : Value) (l : List (Int × Int × Int)) (w : World) (hg : LaidAt w) (hv : OpsAt w v l) (hvg : Lst (fun _ => False) w vg (ints gens)) (hvt : Lst (fun _ => False) w vt (bools taken)) (hvh : Lst (fun _ => False) w vh (ints things))
    (k1 : 1 ≤ kind) (k3 : kind ≤ 3) (n1 : 1 ≤ gens.length) (n4 : gens.length ≤ 4096) (hlt : taken.length = gens.length) (ho : standB gens taken gens.length) (hr : things.length = rank taken taken.length) :
    Calls Tryd.prog 5 #[.agg #[.int .i64 kind, vg, vt, vh], v] w fun e w' => e = .returned (.bool true) ∧ Below w.heap.size w w' := by
  have HP := Lib.hid (fun W (hb : Below w.heap.size w W) => pload_ok (fun _ => False) kind gens taken things vg vt vh W (hvg.below hb) (hvt.below hb) (hvh.below hb) k1 k3 n1 n4 hlt ho hr)
  have HR := Lib.hid (fun T W (hb : Below w.heap.size w W) hT => rload_ok (fun _ => False) T kind gens taken things vg vt vh W hT (hvg.below hb) (hvt.below hb) (hvh.below hb) k1 k3 n1 n4 hlt ho hr)
  have HA := Lib.hid (load_good (things := things) k1 k3 n1 n4 hlt ho)
  have HG := Lib.hid hg
  obtain ⟨pl, cpl, rfl, hm, hops⟩ := hv
  obtain ⟨pvg, cvg, rfl, _, _⟩ := hvg
  obtain ⟨pvt, cvt, rfl, _, _⟩ := hvt
  obtain ⟨pvh, cvh, rfl, _, _⟩ := hvh
  have HO := Lib.hid hops
  clear hg hops hlt ho hr
  have hw0 : Below w.heap.size w (w.alloc (.cells #[.int .i64 kind, .slice pvg (ints gens).length cvg, .slice pvt (bools taken).length cvt, .slice pvh (ints things).length cvh] 45)) := below_alloc (Below.refl _ _) _
  have HW00 := Lib.hid hw0
  have hX0 := rv_cells w kind (.slice pvg (ints gens).length cvg) (.slice pvt (bools taken).length cvt) (.slice pvh (ints things).length cvh) 45
  have HX0 := Lib.hid hX0
  clear hw0 hX0
  go_enter Tryd.func5, Tryd.ntmps5
  go_wp2_with fail
  refine (HP.out _ HW00.out).mono ?_
  rintro e w1 ⟨S, v, rfl, hpt, hb1⟩
  have HL := Lib.hid (show ∀ y, S y → w.heap.size + 1 ≤ y ∧ y < w1.heap.size from fun y hy => by have := hpt.lt y hy; simp at this; exact this)
  have HPT := Lib.hid (show PTab S (w.heap.size + 1) w1 _ v by simpa using hpt)
  obtain ⟨x0, x1, x2, x3⟩ := HX0.out w1 hb1
  have HB1 := Lib.hid (HW00.out.trans (hb1.mono (by simp)))
  obtain ⟨b, _, _, _, _, _, _, rfl, _, hSx⟩ := hpt
  clear hSx hb1
  go_wp2_with fail
  refine (HR.out S _ HB1.out (fun y hy => (HL.out y hy).2)).mono ?_
  rintro e w2 ⟨gs, ts, ls, rfl, hrt, hb2⟩
  obtain ⟨pg, cg, qt, ct, rl, cl, rfl, rfl, rfl⟩ := hrt.shapes
  have hX := rv_cells w2 (Tab.load kind gens taken things).kind (.slice pg (Tab.load kind gens taken things).gens.length cg) (.slice qt (Tab.load kind gens taken things).taken.length ct) (.slice rl (Tab.load kind gens taken things).list.length cl) 30
  have HX := Lib.hid hX
  have HRT := Lib.hid hrt
  have HB2 := Lib.hid hb2
  clear hX hrt hb2 x0 x1 x2 x3
  have HPL := Lib.hid (Play.start HA.out (HPT.out.below HB2.out) HRT.out)
  have HW0 := Lib.hid (below_alloc (bnext HB1.out HB2.out) (.cells #[.int .i64 (Tab.load kind gens taken things).kind, .slice pg (Tab.load kind gens taken things).gens.length cg, .slice qt (Tab.load kind gens taken things).taken.length ct, .slice rl (Tab.load kind gens taken things).list.length cl] 30))
  have hR := HB2.out.size
  have hR1 := HB1.out.size
  have hg0 := HG.out.pos
  have HLW := Lib.hid (HG.out.below HW0.out)
  have hSw : ∀ y, S y → w.heap.size ≤ y := fun y hy => by have := (HL.out y hy).1; omega
  have HSW := Lib.hid hSw
  clear hSw HX HPT HRT HL
  go_upto_region 6 with fail
  generalize w2.alloc (.cells #[.int .i64 (Tab.load kind gens taken things).kind, .slice pg (Tab.load kind gens taken things).gens.length cg, .slice qt (Tab.load kind gens taken things).taken.length ct, .slice rl (Tab.load kind gens taken things).list.length cl] 30) = W0 at *
  clear HB1 HB2
  generalize hR2 : w2.heap.size = R at *
  clear hR2
  go_loopw [9, 10, 11] (fun i _ _ wr => ∃ (A : Tab) (k : Nat) (gs ts ls : Value), k ≤ l.length ∧ i = .int .i64 k ∧ Hid (Play S (w.heap.size + 1) R W0 wr (Tab.load kind gens taken things) A (.pointer (some ⟨b, 0, none⟩)) gs ts ls)) (fun i _ _ _ => l.length - (intOf i).toNat)
  case atStart => exact ⟨_, 0, _, _, _, Nat.zero_le _, rfl, HPL⟩
  case round =>
    obtain ⟨A, k, gs, ts, ls, hk, rfl, HK⟩ := hrel
    by_cases hlt : k < l.length ∧ k < 200
    · obtain ⟨hlt, h400⟩ := hlt
      obtain ⟨⟨ka, hb, xc⟩, hel⟩ : ∃ q, l[k]? = some q := ⟨_, List.getElem?_eq_getElem hlt⟩
      obtain ⟨b1, o1, rfl, hd0, hd1, hd2⟩ := HO.out k ka hb xc hel
      have hbl := cell_lt hd0
      simp only at hbl
      have hnS : ¬ (S b1 ∨ b1 = R) := fun c => by rcases c with c | c; have := HSW.out b1 c; omega; omega
      have hcl : ∀ o, wr.cell? ⟨b1, o, none⟩ = w.cell? ⟨b1, o, none⟩ := fun o => (HK.out.kp.cell (p := ⟨b1, o, none⟩) (Nat.lt_of_lt_of_le hbl HW0.out.size) hnS).trans (HW0.out.cell (p := ⟨b1, o, none⟩) hbl)
      have c0 := (hcl _).trans hd0
      have c1 := (hcl _).trans hd1
      have c2 := (hcl _).trans hd2
      have x0 := HK.out.x0
      have x1 := HK.out.x1
      have x2 := HK.out.x2
      have x3 := HK.out.x3
      obtain ⟨pg', cg', qt', ct', rl', cl', rfl, rfl, rfl⟩ := HK.out.rt.shapes
      have hRl := HK.out.lt
      have hb1l : b1 < wr.heap.size := by have := HK.out.kp.size; have := HW0.out.size; omega
      have hnr := HK.out.nr
      have hnb : ¬ S b1 := fun c => hnS (.inl c)
      have HX := Lib.hid (show ∀ W, Keeps S wr W → (W.cell? ⟨R, 0, none⟩ = some (.int .i64 A.kind) ∧ W.cell? ⟨R, 1, none⟩ = some (.slice pg' A.gens.length cg') ∧ W.cell? ⟨R, 2, none⟩ = some (.slice qt' A.taken.length ct') ∧ W.cell? ⟨R, 3, none⟩ = some (.slice rl' A.list.length cl') ∧
          W.cell? ⟨b1, o1 + k * 3, none⟩ = some (.int .i64 ka) ∧ W.cell? ⟨b1, o1 + k * 3 + 1, none⟩ = some (.int .i64 hb) ∧ W.cell? ⟨b1, o1 + k * 3 + 2, none⟩ = some (.int .i64 xc) ∧ Keeps S wr W) from fun W hW =>
        ⟨(hW.cell (p := ⟨R, 0, none⟩) hRl hnr).trans x0, (hW.cell (p := ⟨R, 1, none⟩) hRl hnr).trans x1, (hW.cell (p := ⟨R, 2, none⟩) hRl hnr).trans x2, (hW.cell (p := ⟨R, 3, none⟩) hRl hnr).trans x3,
          (hW.cell (p := ⟨b1, o1 + k * 3, none⟩) hb1l hnb).trans c0, (hW.cell (p := ⟨b1, o1 + k * 3 + 1, none⟩) hb1l hnb).trans c1, (hW.cell (p := ⟨b1, o1 + k * 3 + 2, none⟩) hb1l hnb).trans c2, hW⟩)
      have HST := Lib.hid (fun W (hW : Keeps (fun _ => False) wr W) => step_any S (fun y => S y ∨ y = R) (w.heap.size + 1) A HK.out.ok.good ka hb xc _ _ _ _ W (HK.out.stepIn W hW (by omega) (by omega) HLW.out))
      have z0 : (0 : Int) ≤ (k : Int) := by omega
      have z1 : (k : Int) < (l.length : Int) := by omega
      have z2 : (k : Int) < 200 := by omega
      clear hd0 hd1 hd2 hcl c0 c1 c2 x0 x1 x2 x3 hel
      have hSl : ∀ y, S y → y < wr.heap.size := fun y hy => (HK.out.pt.lt y hy).2
      have HSL := Lib.hid hSl
      have HST2 := Lib.hid (fun W (hW : Keeps (fun _ => False) wr W) (hl : wr.heap.size < W.heap.size) => step_any S (fun y => (S y ∨ y = R) ∨ y = wr.heap.size) (w.heap.size + 1) A HK.out.ok.good ka hb xc _ _ _ _ W ((HK.out.stepIn W hW (by omega) (by omega) HLW.out).more wr.heap.size hl (HK.out.rt.fresh) hW))
      have HZ := Lib.hid (fun o => (fun W (hk : Keeps S (wr.drew.alloc (.cells #[.int .i64 0, .slice none 0 0, .slice none 0 0, .slice none 0 0] o)) W) => fresh4 (S := S) (T := o) (.int .i64 0) (.slice none 0 0) (.slice none 0 0) (.slice none 0 0) hk (fun c => by have := hSl _ c; omega)))
      clear hSl
      go_upto_region 8 with fail
      go_cut [10, 11] (fun s12 s13 wx => StepCut S (w.heap.size + 1) R wr A (.pointer (some ⟨b, 0, none⟩)) s12 s13 wx)
      case first =>
        go_region_held3 (fun w' => w'.cell? ⟨R, 0, none⟩ = some (.int .i64 A.kind) ∧ w'.cell? ⟨R, 1, none⟩ = some (.slice pg' A.gens.length cg') ∧ w'.cell? ⟨R, 2, none⟩ = some (.slice qt' A.taken.length ct') ∧ w'.cell? ⟨R, 3, none⟩ = some (.slice rl' A.list.length cl') ∧
            w'.cell? ⟨b1, o1 + k * 3, none⟩ = some (.int .i64 ka) ∧ w'.cell? ⟨b1, o1 + k * 3 + 1, none⟩ = some (.int .i64 hb) ∧ w'.cell? ⟨b1, o1 + k * 3 + 2, none⟩ = some (.int .i64 xc) ∧ Keeps S wr w')
          (first | exact HX.out _ (Keeps.refl _ _) | exact HX.out _ (Keeps.refl _ _).drew | exact HX.out _ ((Keeps.refl _ _).drew.alloc _) | exact HX.out _ ((Keeps.refl _ _).alloc _) | (go_split_ands; exact HX.out _ (Keeps.trans (by assumption) hk3)) | exact HX.out _ ((Keeps.trans ((Keeps.refl S wr).drew) hk3).alloc _) | exact HX.out _ (keeps_new4 (Keeps.trans ((Keeps.refl S wr).drew.alloc _) hk3) _ (Nat.le_refl _) _ _ _ _))
          (first
            | (go_at_call 13; refine (HST2.out _ ((Keeps.refl _ _).drew.alloc _) (by simp)).mono ?_; rintro e w3 ⟨A', hok3, gs3, ts3, ls3, rfl, hpt3, hrt3, hk3⟩; obtain ⟨pg3, cg3, qt3, ct3, rl3, cl3, rfl, rfl, rfl⟩ := hrt3.shapes; have HPT3 := Lib.hid hpt3; have HRT3 := Lib.hid hrt3; have HOK3 := Lib.hid hok3; clear hpt3 hrt3 hok3; obtain ⟨y0, y1, y2, y3, yf⟩ := HZ.out _ _ hk3)
            | (go_at_call 13; refine (HST.out _ ((Keeps.refl _ _).drew)).mono ?_; rintro e w3 ⟨A', hok3, gs3, ts3, ls3, rfl, hpt3, hrt3, hk3⟩; obtain ⟨pg3, cg3, qt3, ct3, rl3, cl3, rfl, rfl, rfl⟩ := hrt3.shapes; have HPT3 := Lib.hid hpt3; have HRT3 := Lib.hid hrt3; have HOK3 := Lib.hid hok3; clear hpt3 hrt3 hok3))
        all_goals
          go_wp2_with fail
          go_meet
        · exact stepCut_1 HOK3.out HPT3.out HRT3.out hk3
        · exact stepCut_2 HSL.out HOK3.out HPT3.out HRT3.out hk3 y0 y1 y2 y3
      case rest =>
        obtain ⟨W5, rfl⟩ : ∃ W5 : World, W5 = wc := ⟨_, rfl⟩
        obtain ⟨A', p5, cp5, q5, cq5, r5, cr5, bx, rfl, rfl, hok5, hpt5, hrt5, hk5, y0, y1, y2, y3, hbx⟩ := hcut
        have hc : ∀ j, W5.cell? ⟨R, j, none⟩ = wr.cell? ⟨R, j, none⟩ := fun j => hk5.cell (p := ⟨R, j, none⟩) hRl hnr
        have d0 := (hc 0).trans HK.out.x0
        have d1 := (hc 1).trans HK.out.x1
        have d2 := (hc 2).trans HK.out.x2
        have d3 := (hc 3).trans HK.out.x3
        have df : ∀ j, W5.frozen? ⟨R, j, none⟩ = false := fun j => (World.frozen?_of_block (hk5.block R hRl hnr)).trans (HK.out.fr j)
        have HN := Lib.hid (fun u hu => HK.out.next hok5 hpt5 hrt5 hk5 u hu)
        clear hok5 hpt5 hrt5 hk5 hc HX HST HST2 HZ
        go_wp2_with fail
        go_roundw
        case rel => exact ⟨A', k + 1, _, _, _, by omega, by go_num, Lib.hid (HN.out _ rfl)⟩
        case measure => simp [intOf]; omega
    · obtain ⟨x0, x1, x2, x3⟩ := (⟨HK.out.x0, HK.out.x1, HK.out.x2, HK.out.x3⟩ : _ ∧ _ ∧ _ ∧ _)
      obtain ⟨pg', cg', qt', ct', rl', cl', rfl, rfl, rfl⟩ := HK.out.rt.shapes
      have HSM := Lib.hid (same_slots (fun y => S y ∨ y = R) S (w.heap.size + 1) A HK.out.ok.good _ _ _ _ wr HK.out.pt HK.out.rt (fun y hy => by rcases hy with hy | rfl; exact (HK.out.pt.lt y hy).2; exact HK.out.lt))
      have HBW := Lib.hid (below_keeps HW0.out HK.out.kp (fun y hy => by rcases hy with hy | rfl; exact HSW.out y hy; omega))
      have z0 : (0 : Int) ≤ (k : Int) := by omega
      by_cases h4 : k < l.length
      · have h5 : (200 : Int) ≤ (k : Int) := by omega
        clear hlt
        go_wp2_with fail
        refine HSM.out.mono ?_
        rintro e w4 ⟨rfl, hb4⟩
        go_wp2_with fail
        refine (sure_true _).mono ?_
        rintro e w5 ⟨rfl, hb5⟩
        go_wp2_with fail
        go_ret
        exact ⟨rfl, bnext (bnext HBW.out hb4) hb5⟩
      · clear hlt
        go_wp2_with fail
        refine HSM.out.mono ?_
        rintro e w4 ⟨rfl, hb4⟩
        go_wp2_with fail
        refine (sure_true _).mono ?_
        rintro e w5 ⟨rfl, hb5⟩
        go_wp2_with fail
        go_ret
        exact ⟨rfl, bnext (bnext HBW.out hb4) hb5⟩


set_option maxHeartbeats 4000000 in
set_option maxRecDepth 100000 in
theorem loads_no (kind n : Int) (vg vt vh v : Value) (w : World) (hg : LaidAt w) (hn : n ≠ 0)
    (HP0 : ∀ W, Below w.heap.size w W → Calls Tryd.prog 14 #[.int .i64 kind, vg, vt, vh] W fun e w' => e = .returned (.tuple #[.pointer none, .iface 64 (.int .i64 n)]) ∧ Below W.heap.size W w')
    (HR0 : ∀ W, Below w.heap.size w W → Calls Tryd.prog 15 #[.int .i64 kind, vg, vt, vh] W fun e w' => e = .returned (.tuple #[rv 0 (.slice none 0 0) (.slice none 0 0) (.slice none 0 0), .int .i64 n]) ∧ Below W.heap.size W w')
    (hs1 : ∃ p n c, vg = .slice p n c) (hs2 : ∃ p n c, vt = .slice p n c) (hs3 : ∃ p n c, vh = .slice p n c) :
    Calls Tryd.prog 5 #[.agg #[.int .i64 kind, vg, vt, vh], v] w fun e w' => e = .returned (.bool true) ∧ Below w.heap.size w w' := by
  obtain ⟨pvg, ng, cvg, rfl⟩ := hs1
  obtain ⟨pvt, nt, cvt, rfl⟩ := hs2
  obtain ⟨pvh, nh, cvh, rfl⟩ := hs3
  have HP := Lib.hid HP0
  have HR := Lib.hid HR0
  have HG := Lib.hid hg
  have hw0 : Below w.heap.size w (w.alloc (.cells #[.int .i64 kind, .slice pvg ng cvg, .slice pvt nt cvt, .slice pvh nh cvh] 45)) := below_alloc (Below.refl _ _) _
  have HW00 := Lib.hid hw0
  have hX0 := rv_cells w kind (.slice pvg ng cvg) (.slice pvt nt cvt) (.slice pvh nh cvh) 45
  have HX0 := Lib.hid hX0
  have hq : ((n : Int) != 0) = true := by simp [hn]
  have hq2 : ((n : Int) == n) = true := by simp
  clear hw0 hX0 hg HP0 HR0
  go_enter Tryd.func5, Tryd.ntmps5
  go_wp2_with fail
  refine (HP.out _ HW00.out).mono ?_
  rintro e w1 ⟨rfl, hb1⟩
  obtain ⟨x0, x1, x2, x3⟩ := HX0.out w1 hb1
  have HB1 := Lib.hid (HW00.out.trans (hb1.mono (by simp)))
  clear hb1
  go_wp2_with fail
  refine (HR.out _ HB1.out).mono ?_
  rintro e w2 ⟨rfl, hb2⟩
  have HB2 := Lib.hid (below_alloc (bnext HB1.out hb2) (.cells #[.int .i64 0, .slice none 0 0, .slice none 0 0, .slice none 0 0] 30))
  clear hb2 x0 x1 x2 x3
  go_wp2_with fail
  refine (num_errno n _ (HG.out.below HB2.out)).mono ?_
  rintro e w3 ⟨rfl, hb3⟩
  have HB3 := Lib.hid (bnext HB2.out hb3)
  clear hb3
  go_wp2_with fail
  refine (sure_true _).mono ?_
  rintro e w4 ⟨rfl, hb4⟩
  go_wp2_with fail
  go_ret
  exact ⟨rfl, bnext HB3.out hb4⟩

theorem loads_any (kind : Int) (gens : List Int) (taken : List Bool) (things : List Int) (vg vt vh v : Value) (l : List (Int × Int × Int)) (w : World) (hg : LaidAt w) (hvg : Lst (fun _ => False) w vg (ints gens)) (hvt : Lst (fun _ => False) w vt (bools taken)) (hvh : Lst (fun _ => False) w vh (ints things)) (hv : OpsAt w v l) :
    Calls Tryd.prog 5 #[.agg #[.int .i64 kind, vg, vt, vh], v] w fun e w' => e = .returned (.bool true) ∧ Below w.heap.size w w' := by
  have hs1 : ∃ p n c, vg = .slice p n c := by obtain ⟨p, c, rfl, _⟩ := hvg; exact ⟨_, _, _, rfl⟩
  have hs2 : ∃ p n c, vt = .slice p n c := by obtain ⟨p, c, rfl, _⟩ := hvt; exact ⟨_, _, _, rfl⟩
  have hs3 : ∃ p n c, vh = .slice p n c := by obtain ⟨p, c, rfl, _⟩ := hvh; exact ⟨_, _, _, rfl⟩
  by_cases h : 1 ≤ kind ∧ kind ≤ 3 ∧ 1 ≤ gens.length ∧ gens.length ≤ 4096
  · obtain ⟨k1, k3, n1, n4⟩ := h
    by_cases h2 : (taken.length = gens.length ∧ standB gens taken gens.length) ∧ things.length = rank taken taken.length
    · exact loads_ok kind gens taken things vg vt vh v l w hg hv hvg hvt hvh k1 k3 n1 n4 h2.1.1 h2.1.2 h2.2
    · exact loads_no kind 270 vg vt vh v w hg (by omega) (fun W hb => pload_no2 _ kind gens taken things vg vt vh W (hvg.below hb) (hvt.below hb) (hvh.below hb) k1 k3 n1 n4 h2) (fun W hb => rload_no2 _ kind gens taken things vg vt vh W (hvg.below hb) (hvt.below hb) (hvh.below hb) k1 k3 n1 n4 h2) hs1 hs2 hs3
  · exact loads_no kind 1 vg vt vh v w hg (by omega) (fun W hb => (pload_no1 _ kind gens vg vt vh W (hvg.below hb) h).mono fun e w' ⟨he, hw⟩ => ⟨he, hw ▸ Below.refl _ _⟩) (fun W hb => rload_no1 _ kind gens vg vt vh W (hvg.below hb) h) hs1 hs2 hs3
end Go.Proofs.YtmmbopaieffgeaaDoor
