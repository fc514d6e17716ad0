/- The law FifoTwins: a twin goes on by itself; what was listed is its caller's; what is pushed while it is gone over is met; true at every row of numbers and every number; no condition but that the row can be read. -/
import Derived.Test.YtdpchojfgcjbeaaFTwinsA
import Derived.Test.YtdpchojfgcjbeaaFLawOrder
import Derived.Deep.RegionHeld3
import Derived.Deep.CutRange
namespace Go.Proofs.Ytdpchojfgcjbeaa
open Go.RowKit Go.Shelf
attribute [local go_sem] Oper.semAt_some

/-- What stands behind so many pushes. -/
def TwRel (w : World) (v : Int) (l : List Int) (k : Nat) (W : World) : Prop :=
  k ≤ l.length ∧ ∃ A s, TS w v W A s ∧ A.limit = l.length + 3 ∧ A.l.map (·.1) = ints (l.take k) ∧ A.last = k
theorem tw_len {A : Qu} {L : List Int} (h : A.l.map (·.1) = ints L) : A.l.length = L.length := by
  have := congrArg List.length h
  simpa [ints_len] using this

set_option maxHeartbeats 4000000 in
set_option maxRecDepth 100000 in
theorem twins_any (pv : Value) (l : List Int) (v : Int) (w : World) (hp : Lst (fun _ => False) w pv (ints l)) :
    Calls Try.prog 6 #[pv, .int .i64 v] w fun e w' => e = .returned (.bool true) ∧ Below w.heap.size w w' := by
  obtain ⟨i0, hi, hz0, hz1, hz2⟩ := info_parts Try.infInt
  have HP := Lib.hid hp
  obtain ⟨p, cp, rfl, hm, hg⟩ := hp
  have e1 := ints_len l
  rw [e1] at hm HP ⊢
  have HG := Lib.hid hg
  clear hg e1
  refine (callsIn_wide (n := 6)).1 ?_
  refine callsIn_of_wp_marks Try.func6 rfl trivial ?_ rfl
  simp only [Try.ntmps6, List.size_toArray, List.length_cons, List.length_nil, Nat.reduceAdd, Nat.reduceSub, Array.replicate_succ, Array.replicate_zero, List.push_toArray, List.append_toArray, List.nil_append, List.cons_append]
  refine wpIn_wide.2 (Code.wp_mono NoPanic.imp ?_)
  by_cases h100 : (100 : Int) < (l.length : Int)
  · go_wp2_with fail
    refine (works_any _).mono ?_
    rintro e w1 ⟨rfl, hb⟩
    have hbr : Boxed ((w.alloc (.cells #[.int .i64 v] 3)).alloc (.cells #[.bool false] 4)) (w.heap.size + 1) 4 (.bool false) := by
      have := Boxed.new (w.alloc (.cells #[.int .i64 v] 3)) 4 (.bool false)
      rwa [World.size_alloc] at this
    have hb1 := box_below hbr hb
    have cr := hb1.cell
    have fr := hb1.frozen
    have HB := Lib.hid (bnext (((Below.refl w.heap.size w).alloc (Nat.le_refl _) (.cells #[.int .i64 v] 3)).alloc (by simp) (.cells #[.bool false] 4)) hb)
    clear hb hbr
    go_wp2_with fail
    refine ⟨.bool true, ?_, rfl, HB.out.setCell (p := ⟨w.heap.size + 1, 0, none⟩) (by simp) _⟩
    have hc5 := World.cell?_setCell_same w1 ⟨w.heap.size + 1, 0, none⟩ (.bool true) cr
    simp [results, Try.results6, go_sem, hc5]
  · have l100 : l.length ≤ 100 := by omega
    go_wp2_with fail
    refine (new_yes_I _ _ (by omega) (by omega)).mono ?_
    rintro e w1 ⟨rfl, hw1⟩
    have hT0 : TwRel w v l 0 (w1.alloc (.cells #[.pointer (some ⟨w.heap.size + 2, 0, none⟩)] 23)) := by
      refine ⟨Nat.zero_le _, ⟨(l.length : Int) + 3, [], 0⟩, .slice none 0 0, ⟨?_, ?_, ?_, ?_, ?_, ?_⟩, rfl, rfl, rfl⟩
      · rw [hw1]; exact (((((Below.refl _ w).alloc (Nat.le_refl _) _).alloc (by simp) _).alloc (by simp; omega) _).alloc (by simp; omega) _)
      · rw [hw1]; exact (((Boxed.new w _ _).alloc _).alloc _).alloc _
      · rw [hw1]
        have := ((Boxed.new (w.alloc (.cells #[.int .i64 v] 3)) 4 (.bool false)).alloc (.cells #[.int .i64 ((l.length : Int) + 3), .slice none 0 0, .int .i64 0] QT_I)).alloc (.cells #[.pointer (some ⟨w.heap.size + 2, 0, none⟩)] 23)
        simpa using this
      · have := Boxed.new w1 23 (.pointer (some ⟨w.heap.size + 2, 0, none⟩))
        have hs : w1.heap.size = w.heap.size + 3 := by rw [hw1]; simp
        rwa [hs] at this
      · have := PQ.new (T := QT_I) (E := ET_I) (k := 1) (B := w.heap.size) (w := (w.alloc (.cells #[.int .i64 v] 3)).alloc (.cells #[.bool false] 4)) (by simp; omega) ((l.length : Int) + 3)
        rw [hw1]
        simpa using this.alloc (.cells #[.pointer (some ⟨w.heap.size + 2, 0, none⟩)] 23)
      · exact good_new (by omega) (by omega)
    have hsz : w1.heap.size = w.heap.size + 3 := by rw [hw1]; simp
    have HT0 := Lib.hid hT0
    have e0 := errV_0
    clear hw1 hT0
    go_wp2_with fail
    have HSZ := Lib.hid hsz
    clear hsz
    go_loopw [7] (fun i wr => ∃ k : Nat, i = .int .i64 k ∧ TwRel w v l k wr) (fun i _ => l.length - (intOf i).toNat)
    case atStart => exact ⟨0, rfl, HT0.out⟩
    case round =>
      obtain ⟨k, rfl, hk, A, s, hS, hlim, hl, hlast⟩ := hrel
      have HS := Lib.hid hS
      have HL := Lib.hid hl
      have HLIM := Lib.hid hlim
      have HLAST := Lib.hid hlast
      have cq := hS.bq.cell
      clear hS hl hlim hlast
      by_cases hlt : k < l.length
      · obtain ⟨b1, o1, rfl, _, hc⟩ := HG.out k _ (ints_at hlt)
        have hc' : wr.cell? ⟨b1, o1 + k, none⟩ = some (.int .i64 (l.getD k 0)) := (HS.out.bel.cell (p := ⟨b1, o1 + k, none⟩) (cell_lt hc)).trans hc
        clear hc
        have z0 : (0 : Int) ≤ (k : Int) := by omega
        have z1 : (k : Int) < (l.length : Int) := by omega
        have hpu := fun W h hB => Lib.hid (push_yes_I w.heap.size A HS.out.good W (w.heap.size + 2) s h (l.getD k 0) (by rw [HLAST.out]; omega) (by rw [HLIM.out, tw_len HL.out]; simp; omega) hB)
        have hgt : ints (l.take (k + 1)) = ints (l.take k) ++ [.int .i64 (l.getD k 0)] := ints_take_succ (by simp [List.getD_eq_getElem?_getD, hlt])
        have HGT := Lib.hid hgt
        clear hgt
        generalize l.getD k 0 = x at *
        go_upto_region 9 with fail
        go_cut [42] from 30 to 42 (fun s42 wx => s42 = .bool false ∧ Hid (∃ s', PQ QT_I ET_I 1 w.heap.size wx (A.push (.int .i64 x)) (w.heap.size + 2) s' ∧ Keeps (fun y => y = w.heap.size + 2 ∨ s.ownBlock = some y) wr wx))
        case first =>
          go_region_with (go_at_call 18; refine (hpu _ HS.out.q.drew HS.out.bel.size).out.mono ?_; rintro e w3 ⟨rfl, s3, h3, k3, _⟩)
          all_goals go_wp2_with fail
          all_goals
            go_meet
            exact ⟨rfl, Lib.hid ⟨s3, h3, ((Keeps.refl _ wr).drew).trans k3⟩⟩
        case rest =>
          obtain ⟨rfl, hcc⟩ := hcut
          obtain ⟨s3, h3, k3⟩ := hcc.out
          have hT3 := HS.out.step k3 h3 (good_push_I HS.out.good x (by rw [HLIM.out, tw_len HL.out]; simp; omega))
          have HT3 := Lib.hid hT3
          clear h3 k3 hT3 hcc
          go_wp2_with fail
          go_roundw
          case rel => exact ⟨k + 1, by go_num, by omega, A.push (.int .i64 x), s3, HT3.out, HLIM.out, by rw [HGT.out, ← HL.out]; simp [Qu.push], by have := HLAST.out; simp [Qu.push]; omega⟩
          case measure => simp [intOf]; omega
      · obtain rfl : k = l.length := by omega
        rw [List.take_length] at HL
        go_wp2_with fail
        refine (twin_I w.heap.size A HS.out.good wr _ s HS.out.q).mono ?_
        rintro e w2 ⟨bt, st, rfl, ht, hb2⟩
        have HS2 := Lib.hid (HS.out.below hb2)
        have HT2 := Lib.hid (TT.made HS.out ht)
        have cq2 := HS2.out.bq.cell
        have cv2 := HS2.out.bv.cell
        clear cq ht hb2
        have HX := Lib.hid (fun W (hb : Below w2.heap.size w2 W) => (show W.cell? ⟨w.heap.size + 3, 0, none⟩ = some (.pointer (some ⟨w.heap.size + 2, 0, none⟩)) ∧ Below w2.heap.size w2 W from ⟨(box_below HS2.out.bq hb).cell, hb⟩))
        have HQ1 := Lib.hid (fun W (hb : Below w2.heap.size w2 W) => (HS2.out.qat HL.out).below hb)
        have HQ2 := Lib.hid (fun W (hb : Below w2.heap.size w2 W) => (HT2.out.qat HL.out).below hb)
        have tneq : (some (⟨bt, 0, none⟩ : Addr)).isNone = false := rfl
        go_wp2_with fail
        go_upto_region 12 with fail
        go_cut [59] from 45 to 59 (fun s59 wx => s59 = .bool false ∧ Hid (Below w2.heap.size w2 wx))
        case first =>
          go_region_held3 (fun w' => w'.cell? ⟨w.heap.size + 3, 0, none⟩ = some (.pointer (some ⟨w.heap.size + 2, 0, none⟩)) ∧ Below w2.heap.size w2 w')
            (first | exact HX.out _ (Below.refl _ _) | exact HX.out _ (Below.refl _ _).drew | (go_split_ands; exact HX.out _ (bnext (by first | assumption | exact (Below.refl _ _).drew | exact Below.refl _ _) hb)))
            (first
              | (go_at_call 28; refine (same_true _ _ _ _ _ (HQ1.out _ (by first | exact Below.refl _ _ | exact (Below.refl _ _).drew | (go_split_ands; assumption))) (HQ2.out _ (by first | exact Below.refl _ _ | exact (Below.refl _ _).drew | (go_split_ands; assumption)))).mono ?_; rintro e w3 ⟨rfl, hb⟩)
              | (go_at_call 22; refine (limit_at_I _ _ _ _ (by first | (with_reducible exact HQ1.out _ (by first | exact Below.refl _ _ | exact (Below.refl _ _).drew | (go_split_ands; assumption))) | (with_reducible exact HQ2.out _ (by first | exact Below.refl _ _ | exact (Below.refl _ _).drew | (go_split_ands; assumption))))).mono ?_; rintro e w3 ⟨rfl, rfl⟩))
          all_goals go_wp2_with fail
          all_goals
            go_meet
            exact ⟨rfl, Lib.hid (by go_split_ands; assumption)⟩
        case rest =>
          obtain ⟨rfl, hbc⟩ := hcut
          have HS3 := Lib.hid (HS2.out.below hbc.out)
          have HT3 := Lib.hid (HT2.out.below hbc.out)
          have cq3 := HS3.out.bq.cell
          have cv3 := HS3.out.bv.cell
          clear hbc HX HQ1 HQ2 cq2 cv2
          go_wp2_with fail
          refine (list_any wc _ l (HS3.out.qat HL.out).holds).mono ?_
          rintro e w4 ⟨vl, rfl, ho, hb4⟩
          obtain ⟨p9, c9, rfl⟩ := own_slice ho
          have HO4 := Lib.hid ho
          have HB4 := Lib.hid hb4
          have cv4 := (HS3.out.below hb4).bv.cell
          clear ho hb4 cq3 cv3
          go_wp2_with fail
          go_loopw [10] (fun i wr => ∃ (j : Nat) (xs : List Value), j ≤ l.length ∧ i = .int .i64 j ∧ wr.ownsRow wc.heap.size 3 1 (.slice p9 l.length c9) l.length xs ∧ Below wc.heap.size wc wr) (fun i _ => l.length - (intOf i).toNat)
          case atStart => exact ⟨0, ints l, Nat.zero_le _, rfl, HO4.out, HB4.out⟩
          case round =>
            obtain ⟨j, xs, hj, rfl, ho, hb⟩ := hrel
            have cv5 := (HS3.out.below hb).bv.cell
            have hbs := hb.size
            by_cases hlt : j < l.length
            · obtain ⟨g, cap, hf, hg1, hg2⟩ := ho.form (by omega)
              cases hf
              have q0 := ho.cellAt j (by omega)
              rw [List.getElem?_eq_getElem (by rw [ho.1]; omega)] at q0
              have q1 := ho.frozenAt j
              have HO5 := Lib.hid (ho.stored j (.int .i64 v)).1
              have HB5 := Lib.hid hb
              have z0 : (0 : Int) ≤ (j : Int) := by omega
              have z1 : (j : Int) < (l.length : Int) := by omega
              generalize xs[j]'(by rw [ho.1]; omega) = old at q0
              clear ho hb
              go_wp2_with fail
              go_roundw
              case rel => exact ⟨j + 1, _, by omega, by go_num, HO5.out, HB5.out.setCell (p := ⟨g, j, none⟩) hg1 _⟩
              case measure => simp [intOf]; omega
            · obtain rfl : j = l.length := by omega
              have HO5 := Lib.hid ho
              have HB5 := Lib.hid hb
              clear ho hb
              go_wp2_with (at_builtin; refine wpList_append_own _ rfl _ _ 28 rfl wc.heap.size 3 i0 (.int .i64 0) 1 8 Try.underlying28 hi hz0 hz1 hz2 rfl (by decide) (.slice p9 l.length c9) l.length xs rfl (HO5.out.alloc _) ⟨wr.heap.size, 0, none⟩ 2 2 [.int .i64 v, .int .i64 v] rfl rfl (World.news_of_block (heap_alloc_new wr _)) (by simp [Value.oneCell']) (by unfold maxLen; omega) (by omega) (by have := HB5.out.size; simp; omega) ?_; intro va wa howna hgrowa _; obtain ⟨pa, ca, rfl⟩ := own_slice howna; have HOA := Lib.hid howna; have HBA := Lib.hid ((HB5.out.alloc HB5.out.size _).grown hgrowa (by have := HB5.out.size; simp; omega) (fun k e => (HO5.out.lt k e).1)); clear howna hgrowa)
              have HSA := Lib.hid (HS3.out.below HBA.out)
              have HTA := Lib.hid (HT3.out.below HBA.out)
              have cqa := HSA.out.bq.cell
              have cva := HSA.out.bv.cell
              clear cv5 cv4 hbs
              have HG1 := Lib.hid (good_push_I HSA.out.good v (by rw [HLIM.out, tw_len HL.out]; omega))
              have HPU := Lib.hid (fun (W : World) (h : PQ QT_I ET_I 1 w.heap.size W A (w.heap.size + 2) s) (hB : w.heap.size ≤ W.heap.size) => push_yes_I w.heap.size A HSA.out.good W (w.heap.size + 2) s h v (by rw [HLAST.out]; omega) (by rw [HLIM.out, tw_len HL.out]; omega) hB)
              have HL1 := Lib.hid (show (A.push (.int .i64 v)).l.map (·.1) = ints (l ++ [v]) by simp [Qu.push, HL.out, ints])
              obtain ⟨c1, hc1⟩ : ∃ c, (A.push (.int .i64 v)).l.length = c := ⟨_, rfl⟩
              have hc2 : c1 = l.length + 1 := by rw [← hc1, tw_len HL1.out]; simp
              have tln : ((l.length : Int) + 1 != (c1 : Int)) = false := by simp; omega
              have HLN := Lib.hid hc1
              have HC2 := Lib.hid hc2
              clear hc1 hc2
              have HLP := Lib.hid (fun (W : World) (hb : Below w.heap.size w W) => show Lst (fun _ => False) W (.slice p l.length cp) (ints l) from HP.out.below hb)
              go_upto_region 20 with fail
              have hw1 : IntKind.i64.wrap ((l.length : Int) + 1) = (l.length : Int) + 1 := IntWalk.i64_in _ (by omega)
              go_cut [100] from 77 to 100 (fun s100 wx => s100 = .bool false ∧ Hid (∃ s5, TS w v wx (A.push (.int .i64 v)) s5 ∧ TT w wx s5 A bt st))
              case first =>
                go_region_held3 (fun w' => w'.cell? ⟨w.heap.size + 3, 0, none⟩ = some (.pointer (some ⟨w.heap.size + 2, 0, none⟩)) ∧ w'.cell? ⟨w.heap.size, 0, none⟩ = some (.int .i64 v))
                  (first | exact ⟨cqa, cva⟩ | exact ⟨HS5.out.bq.cell, HS5.out.bv.cell⟩ | exact ⟨HS6.out.bq.cell, HS6.out.bv.cell⟩ | exact ⟨HS7.out.bq.cell, HS7.out.bv.cell⟩ | exact ⟨HS8.out.bq.cell, HS8.out.bv.cell⟩)
                  (first
                    | (go_at_call 18; refine (HPU.out _ HSA.out.q.drew HSA.out.bel.size).mono ?_; rintro e w5 ⟨rfl, s5, h5, k5, g5⟩; have HS5 := Lib.hid (HSA.out.step (((Keeps.refl _ wa).drew).trans k5) h5 HG1.out); have HT5 := Lib.hid (HTA.out.step (((Keeps.refl _ wa).drew).trans k5) g5); clear h5 k5 g5)
                    | (go_at_call 23; refine (list_any _ _ l (HT5.out.qat HL.out).holds).mono ?_; rintro e w6 ⟨v6, rfl, ho6, hb6⟩; have HL6 := Lib.hid (Lst.of_own (S := fun _ => False) ho6 (by rw [ints_len]) (by omega) (fun _ _ _ k => k)); have HS6 := Lib.hid (HS5.out.below hb6); have HT6 := Lib.hid (HT5.out.below hb6); clear ho6 hb6)
                    | (go_at_call 30; refine (same_yes _ _ l _ _ _ HL6.out (HLP.out _ HS6.out.bel)).mono ?_; rintro e w7 ⟨rfl, hb7⟩; have HS7 := Lib.hid (HS6.out.below hb7); have HT7 := Lib.hid (HT6.out.below hb7); clear hb7)
                    | (go_at_call 20; (with_reducible refine (len_c HT7.out.t (tw_len HL.out)).mono ?_); rintro e w8 ⟨rfl, rfl⟩)
                    | (go_at_call 20; (with_reducible refine (len_c HS7.out.q HLN.out).mono ?_); rintro e w8 ⟨rfl, rfl⟩)
                    | (go_at_call 28; refine (same_false _ _ _ _ _ _ (HS7.out.qat HL1.out) (HT7.out.qat HL.out) (by simp)).mono ?_; rintro e w8 ⟨rfl, hb8⟩; have HS8 := Lib.hid (HS7.out.below hb8); have HT8 := Lib.hid (HT7.out.below hb8); clear hb8))
                all_goals go_wp2_with fail
                all_goals
                  go_meet
                  exact ⟨rfl, Lib.hid ⟨s5, HS8.out, HT8.out⟩⟩
              case rest =>
                obtain ⟨Wc, rfl⟩ : ∃ Wc : World, Wc = wc := ⟨_, rfl⟩
                obtain ⟨rfl, hcc⟩ := hcut
                obtain ⟨s5, hS5, hT5⟩ := hcc.out
                have HS5 := Lib.hid hS5
                have HT5 := Lib.hid hT5
                clear hcc hS5 hT5 cqa cva HLP HPU
                go_wp2_with fail
                refine (clear_any _ A _ bt st HT5.out.t).mono ?_
                rintro e w9 ⟨rfl, st9, _, k9, _⟩
                have HS9 := Lib.hid (HS5.out.twin HT5.out k9)
                have cq9 := HS9.out.bq.cell
                have hl9 := HS9.out.bq.lt
                clear k9
                go_wp2_with fail
                refine (all_I _ _).mono ?_
                rintro e w10 ⟨rfl, rfl⟩
                go_wp2_with fail
                obtain ⟨mb, hmb⟩ : ∃ mb, w9.heap.size = mb := ⟨_, rfl⟩
                have hL1 : (l ++ [v, RowKit.wrap64 (v + 1)]).length = l.length + 2 := by simp
                have hI0 : TwI w v mb (l ++ [v]) (l ++ [v, RowKit.wrap64 (v + 1)]) 0 ((w9.alloc (.cells #[.int .i64 0] 3)).alloc (.cells #[.pointer (some ⟨w.heap.size + 2, 0, none⟩)] 23)) := by
                  refine ⟨⟨A.push (.int .i64 v), s5, HS9.out.below (((Below.refl _ w9).alloc (Nat.le_refl _) _).alloc (by simp) _), ?_, ?_, ?_⟩, ⟨?_, ?_⟩, by simp, by rw [← hmb]; omega⟩
                  · rw [hL1, show (A.push (.int .i64 v)).limit = A.limit from rfl, HLIM.out]; omega
                  · rw [if_pos rfl, show (A.push (.int .i64 v)).last = A.last + 1 from rfl, HLAST.out]; simp
                  · simpa using HL1.out
                  · rw [← hmb]; exact (Boxed.new w9 _ _).alloc _
                  · rw [← hmb]
                    have := Boxed.new (w9.alloc (.cells #[.int .i64 0] 3)) 23 (.pointer (some ⟨w.heap.size + 2, 0, none⟩))
                    rwa [World.size_alloc] at this
                rw [hmb]
                have HI0 := Lib.hid hI0
                have HMB := Lib.hid hmb
                have HLL := Lib.hid hL1
                clear hI0 hmb cq9 hl9 hL1
                refine wpIn_wide.1 (range_law (n := 6) rfl (by omega) (gf := 51) (lb := #[.pointer (some ⟨mb + 1, 0, none⟩)]) rfl trivial (enters_of Try.func51 (by kernel_rfl) rfl)
                  (fun _ _ => rfl) (all_iter_I 5 (by omega) (mb + 1)) (fun k x V h V' row hg hr => ?nx) (fun k V h V' row hg hr => ?en) (TwI w v mb (l ++ [v]) (l ++ [v, RowKit.wrap64 (v + 1)])) (fun _ _ => False)
                  (twI_own w v mb _ _ _ (by have := HS9.out.bel.size; simp; omega)) (fun _ _ _ _ h _ _ => h) ?rd HI0.out ?a1 ?assign ?body ?done ?stop)
                case nx =>
                  obtain ⟨L', h1, h2⟩ := h
                  exact ⟨L', h1.turn hg (fun r e => (hr r e).2), h2⟩
                case en =>
                  obtain ⟨L', h1, h2⟩ := h
                  exact ⟨L', h1.turn hg (fun r e => (hr r e).2), h2⟩
                case rd =>
                  rintro k V ⟨⟨A', s', h, _, _, hl'⟩, ⟨_, h2⟩, _⟩
                  exact ⟨_, _, h2.cell, (h.qat hl').holds⟩
                case assign =>
                  intro l' k x W K hK
                  unfold encs_I
                  gi_wp2
                  exact hK
                case stop =>
                  rintro D c W _ h _
                  exact h.elim
                case body =>
                  rintro l' k x W ⟨⟨A', s', hT, hlim, hlast, hl'⟩, ⟨hm, hb⟩, hk, hm4⟩ ⟨L', hL', hx⟩
                  obtain rfl := hL'.uniq ⟨_, hb.cell, (hT.qat hl').holds⟩
                  have hkl := (List.getElem?_eq_some_iff.1 hx).1
                  have cq := hT.bq.cell
                  have cv := hT.bv.cell
                  have cm := hm.cell
                  have fm := hm.frozen
                  have hmlt := hm.lt
                  have HT := Lib.hid hT
                  have HM := Lib.hid hm
                  have HBX := Lib.hid hb
                  have HL' := Lib.hid hl'
                  have HLI := Lib.hid hlim
                  have HLA := Lib.hid hlast
                  clear hL' hx hT hm hb hl' hlim hlast hk
                  by_cases hk0 : k = 0
                  · subst hk0
                    rw [if_pos rfl] at HL' hkl HLA
                    have hll : A'.l.length = l.length + 1 := by rw [tw_len HL'.out]; simp
                    have hlr : A'.l.length < A'.limit := by rw [hll, HLI.out, HLL.out]; omega
                    have hlt2 : A'.last + 1 ≤ 9223372036854775807 := by have := HLA.out; simp at this; omega
                    have hpu := Lib.hid (push_yes_I w.heap.size A' HT.out.good W (w.heap.size + 2) s' HT.out.q (RowKit.wrap64 (v + 1)) hlt2 hlr HT.out.bel.size)
                    have HG' := Lib.hid (good_push_I HT.out.good (RowKit.wrap64 (v + 1)) hlr)
                    clear hll hlr hlt2 hkl
                    gi_wp2_with fail
                    refine ⟨trivial, ?_⟩
                    refine (CallsIn.inRound l' (callsIn_wide.2 hpu.out)).mono ?_
                    rintro e w3 ⟨rfl, s3, h3, k3, _⟩
                    have hT3 := HT.out.step k3 h3 HG'.out
                    have hm3 := HT.out.q.box k3 HM.out (by decide) (by decide)
                    have hb3 := HT.out.q.box k3 HBX.out (by decide) (by decide)
                    have HKF := Lib.hid (fun B0 => HT.out.q.others (B0 := B0) k3)
                    have cm3 := hm3.cell
                    have fm3 := hm3.frozen
                    have HT3 := Lib.hid hT3
                    have HM3 := Lib.hid hm3
                    have HB3 := Lib.hid hb3
                    clear h3 k3 hT3 hm3 hb3
                    gi_wp2_with fail
                    refine ⟨(HKF.out _).trans ((KeepsOthers.setCell _ _ _).from _), ⟨_, s3, HT3.out.met HM3.out hm4 _, HLI.out, ?_, ?_⟩, ⟨HM3.out.set _, HB3.out.other (by omega) _⟩, by simp, hm4⟩
                    · have := HLA.out; simp at this; simp [Qu.push]; omega
                    · simp [Qu.push, HL'.out, ints]
                  · have hkz : ((k : Int) == 0) = false := by simp; omega
                    rw [if_neg hk0] at HL' hkl
                    have kb : (k : Int) ≤ 4096 := by rw [HLL.out] at hkl; omega
                    have KL := Lib.hid hkl
                    clear hkl
                    gi_wp2_with fail
                    refine ⟨trivial, ?_⟩
                    gi_wp2_with fail
                    refine ⟨(KeepsOthers.setCell _ _ _).from _, ⟨A', s', HT.out.met HM.out hm4 _, HLI.out, ?_, ?_⟩, ⟨HM.out.set _, HBX.out.other (by omega) _⟩, ?_, hm4⟩
                    · rw [if_neg (by omega)]; have := HLA.out; rwa [if_neg hk0] at this
                    · rw [if_neg (by omega)]; exact HL'.out
                    · rw [if_neg (by omega)]; have := KL.out; omega
                case done =>
                  rintro D k W hD ⟨L', hL', hlen⟩ ⟨⟨A', s', hT, hlim, hlast, hl'⟩, ⟨hm, hb⟩, hk, hm4⟩ hK
                  obtain rfl := hL'.uniq ⟨_, hb.cell, (hT.qat hl').holds⟩
                  have hk0 : k ≠ 0 := by
                    rintro rfl
                    rw [if_pos rfl] at hlen
                    simp at hlen
                  rw [if_neg hk0, HLL.out] at hlen hk
                  rw [if_neg hk0] at hl'
                  obtain rfl : k = l.length + 2 := by omega
                  have hal : A'.l.length = l.length + 2 := by rw [tw_len hl', HLL.out]
                  obtain ⟨c2, hc2⟩ : ∃ c, l.length + 2 = c := ⟨_, rfl⟩
                  rw [hc2] at hm hal
                  have tc1 : ((c2 : Int) == (l.length : Int) + 2) = true := by simp; omega
                  have HC2' := Lib.hid hc2
                  clear hc2
                  have HLC := Lib.hid hal
                  have HT := Lib.hid hT
                  have cm := hm.cell
                  have HMX := Lib.hid hm
                  have cq := hT.bq.cell
                  have cr := hT.br.cell
                  have fr := hT.br.frozen
                  clear hL' hlen hk hl' hal hT hm hb hlim hlast
                  go_upto_region 29 with fail
                  have hsz4 : w.heap.size + 1 ≠ mb := by omega
                  have hw2 : IntKind.i64.wrap ((l.length : Int) + 2) = (l.length : Int) + 2 := IntWalk.i64_in _ (by omega)
                  have tc2 : (((l.length + 2 : Nat) : Int) == (l.length : Int) + 2) = true := by simp
                  go_region_held3 (fun w' => w'.cell? ⟨mb, 0, none⟩ = some (.int .i64 c2) ∧ w'.cell? ⟨w.heap.size + 3, 0, none⟩ = some (.pointer (some ⟨w.heap.size + 2, 0, none⟩)))
                    (first | exact ⟨cm, cq⟩ | exact ⟨cm8, cq8⟩ | exact ⟨(World.cell?_setCell_far _ _ _ _ hsz4).trans cm8, (World.cell?_setCell_far _ _ _ _ (by simp)).trans cq8⟩ | go_keep)
                    (first
                      | (go_at_call 20; refine (len_c HT.out.q.drew HLC.out).mono ?_; rintro e w8 ⟨rfl, rfl⟩)
                      | (go_at_call 11; refine (works_any _).mono ?_; rintro e w8 ⟨rfl, hb8⟩; have HB8 := Lib.hid hb8; have cr8 := (box_below (w := W.drew) HT.out.br hb8).cell; have fr8 := (box_below (w := W.drew) HT.out.br hb8).frozen; have cm8 := (box_below (w := W.drew) HMX.out hb8).cell; have cq8 := (box_below (w := W.drew) HT.out.bq hb8).cell; clear hb8))
                  all_goals go_wp2_with fail
                  have hDl := lt_of_block hK
                  have hK8 : w8.heap[D]? = some (.deferred (some [])) := (HB8.out.block D hDl).trans hK
                  have hKs := (KeepsOthers.setCell w8 ⟨w.heap.size + 1, 0, none⟩ (.bool true)).same D _ hK8 rfl
                  refine ⟨by simp, .inl ⟨_, _, rfl, run_takeDeferred hKs, ?_⟩⟩
                  have hb8 : Below w.heap.size w w8 := bnext HT.out.bel.drew HB8.out
                  have hc5 := cell_kept (World.cell?_setCell_same w8 ⟨w.heap.size + 1, 0, none⟩ (.bool true) cr8) (grownBy_putObj' _ D (.deferred none)) (fun r e => by cases e; exact ⟨_, hKs, rfl⟩)
                  refine ⟨.bool true, ?_, rfl, (hb8.setCell (p := ⟨w.heap.size + 1, 0, none⟩) (by simp) _).trans (belowK_b (w := w) (Nat.le_refl _) _ D _ _ (by have := HS9.out.bel.size; simp at hD; omega) hKs rfl rfl)⟩
                  simp [results, Try.results6, go_sem, hc5]
end Go.Proofs.Ytdpchojfgcjbeaa
