/- The law TaskAsks: it answers true, whatever the input; no condition but what the rows' listed variables hold. -/
import Derived.Test.YtpfhebfkhailfaaDoorUTks
import Derived.Test.YtpfhebfkhailfaaDoorQPickR
import Derived.Test.YtpfhebfkhailfaaDoorUWork
import Derived.Test.YtpfhebfkhailfaaDoorUWait
namespace Go.Proofs.YtpfhebfkhailfaaDoor
open Go.RowKit Go.Shelf Tsk

/-- The cells of a task in a row. -/
def At8 (W : World) (b o : Nat) (t : Tk) : Prop := W.cell? ⟨b, o, none⟩ = some (.int .i64 t.p) ∧ W.cell? ⟨b, o + 1, none⟩ = some t.s ∧ W.cell? ⟨b, o + 2, none⟩ = some (.int .i64 t.k.g) ∧ W.cell? ⟨b, o + 3, none⟩ = some (.int .i64 t.k.o) ∧ W.cell? ⟨b, o + 4, none⟩ = some (.int .i64 t.k.n) ∧ W.cell? ⟨b, o + 5, none⟩ = some (.int .i64 t.k.d) ∧ W.cell? ⟨b, o + 6, none⟩ = some (.int .i64 t.k.c) ∧ W.cell? ⟨b, o + 7, none⟩ = some (.int .i64 t.k.t)
theorem At8.below {W W' : World} {b o : Nat} {t : Tk} (h : At8 W b o t) (hb : Below W.heap.size W W') : At8 W' b o t := by
  obtain ⟨c0, c1, c2, c3, c4, c5, c6, c7⟩ := h
  have hl := cell_lt c0
  have k := fun (o : Nat) => hb.cell (p := ⟨b, o, none⟩) hl
  exact ⟨(k _).trans c0, (k _).trans c1, (k _).trans c2, (k _).trans c3, (k _).trans c4, (k _).trans c5, (k _).trans c6, (k _).trans c7⟩
theorem At8.lt {W : World} {b o : Nat} {t : Tk} (h : At8 W b o t) : b < W.heap.size := cell_lt h.1
theorem Tasks.at8 {w : World} {v : Value} {m : Nat} {T : Nat → Tk} (h : Tasks w v m T) : ∃ p cap, v = .slice p m cap ∧ ∀ j, j < m → ∃ b off, p = some ⟨b, off, none⟩ ∧ At8 w b (off + j * 8) (T j) ∧ Jobs w (T j).s (T j).n (T j).f := by
  obtain ⟨p, cap, e, hm, hc⟩ := h
  refine ⟨p, cap, e, fun j hj => ?_⟩
  obtain ⟨b, off, e2, c0, c1, c2, c3, c4, c5, c6, c7, hJ⟩ := hc j hj
  exact ⟨b, off, e2, ⟨c0, c1, c2, c3, c4, c5, c6, c7⟩, hJ⟩
set_option maxHeartbeats 8000000 in
set_option maxRecDepth 100000 in
theorem asks_any (v : Value) (m : Nat) (T : Nat → Tk) (now : Int) (w : World) (hg : LaidAt w) (h : Tasks w v m T) (hok : ∀ j, j < m → (T j).k.c ≤ 9223372036854775807 ∧ (T j).n * 32 ≤ 140737488355328) (hm80 : m * 80 ≤ 140737488355328) :
    Calls Tryd.prog 6 #[v, .int .i64 now] w fun e w' => e = .returned (.bool true) ∧ Below w.heap.size w w' := by
  obtain ⟨i0, hi0, hz0, hz1, hz2⟩ := info_parts Tryd.infTk
  have HT := Lib.hid h
  have HOK := Lib.hid hok
  have HPR := Lib.hid (fun (W : World) (hb : Below w.heap.size w W) => rpick v m T W (h.below hb))
  have HWK := Lib.hid (fun (W : World) (hb : Below w.heap.size w W) => works_any W (hg.below hb))
  obtain ⟨q, cap, rfl, hm, _⟩ := h
  clear hg hok
  go_enter Tryd.func6, Tryd.ntmps6
  go_wp2_with fail
  go_loopw [5, 6] (fun mv iv wr => ∃ (i : Nat) (sl : Nat → Value) (av : Value), av = mv ∧ iv = .int .i64 i ∧ i ≤ m ∧ Hid (wr.ownsRow w.heap.size KT 8 mv i (tkL (tm T sl) i)) ∧ Hid (∀ j, j < i → Jobs wr (sl j) (T j).n (T j).f ∧ NotIn (sl j) mv.ownBlock) ∧ Hid (Below w.heap.size w wr)) (fun _ iv _ => m - (intOf iv).toNat)
  case atStart => exact ⟨0, fun _ => .nilIface, _, rfl, rfl, Nat.zero_le _, World.ownsRow_nil _ _ _ _, fun j hj => absurd hj (Nat.not_lt_zero _), Below.refl _ _⟩
  case round =>
    obtain ⟨i, sl, mv, rfl, rfl, hi, HO, HJS, HBr⟩ := hrel
    by_cases him : i < m
    · have him' : (i : Int) < (m : Int) := by omega
      obtain ⟨q', cap', e, hat⟩ := (HT.out.below HBr.out).at8
      cases e
      obtain ⟨b, off, rfl, ha8, hJ⟩ := hat i him
      have HOI := Lib.hid (HOK.out i him)
      have HTW := Lib.hid (rtwin (T i).p (T i).s (T i).n (T i).f (T i).k wr hJ (HOK.out i him).2)
      obtain ⟨c0, c1, c2, c3, c4, c5, c6, c7⟩ := ha8
      obtain ⟨s1, cp1, hs1, _⟩ := hJ
      have HTM := Lib.hid (show ∀ x, tm T (upd sl i x) i = ⟨(T i).p, x, (T i).n, (T i).f, (T i).k⟩ from fun x => by unfold tm; rw [upd_same])
      rw [hs1] at c1 HTW
      obtain ⟨tt, htt⟩ : ∃ tt, tt = T i := ⟨_, rfl⟩
      have HTT := Lib.hid htt
      rw [← htt] at c0 c1 c2 c3 c4 c5 c6 c7 HTW HTM HOI
      clear htt
      obtain ⟨tp, ts, tn, tf, ⟨kg, ko, kn, kd, kc, kt⟩⟩ := tt
      dsimp only at c0 c1 c2 c3 c4 c5 c6 c7 HTW HTM HOI
      clear hat hs1
      go_wp2_with fail
      refine HTW.out.mono ?_
      rintro e w2 ⟨x, rfl, s2, cp2, rfl, ho2, hb2⟩
      have HO2 := Lib.hid ho2
      have HB2 := Lib.hid hb2
      have hs0 := HBr.out.size
      have hs2 := hb2.size
      have hba : Below wr.heap.size wr (w2.alloc (.cells #[.int .i64 tp, .slice s2 tn cp2, .int .i64 kg, .int .i64 ko, .int .i64 kn, .int .i64 kd, .int .i64 kc, .int .i64 kt] KT)) := hb2.alloc hs2 _
      have HBA := Lib.hid hba
      have HOA := Lib.hid (own_under HO.out hba)
      clear ho2 hb2 hba
      go_wp2_with (at_builtin; refine wpList_append_own_at _ rfl _ _ 52 rfl w.heap.size KT i0 (.agg #[.int .i64 0, .slice none 0 0, .int .i64 0, .int .i64 0, .int .i64 0, .int .i64 0, .int .i64 0, .int .i64 0]) 8 80 Tryd.underlying52 hi0 hz0 hz1 hz2 rfl (by decide) mv i (tkL (tm T sl) i) rfl HOA.out ⟨w2.heap.size, 0, none⟩ 1 1 [.int .i64 tp, .slice s2 tn cp2, .int .i64 kg, .int .i64 ko, .int .i64 kn, .int .i64 kd, .int .i64 kc, .int .i64 kt] rfl rfl (World.news_of_block (heap_alloc_new _ _)) (by simp [Value.oneCell']) (by unfold maxLen; omega) (by omega) (by simp; omega) ?_)
      intro v3 w3 ho3 hg3 _ hat3
      have hrow : ∀ k, mv.ownBlock = some k → w.heap.size ≤ k ∧ k < wr.heap.size := fun k e => World.ownsRow.lt HO.out k e
      have HR3 := Lib.hid (show w3.ownsRow w.heap.size KT 8 v3 (i + 1) (tkL (tm T (upd sl i (.slice s2 tn cp2))) (i + 1)) from by
        rw [tkL_succ, tkL_congr (T' := tm T sl) (fun j hj => by unfold tm; rw [upd_ne _ (by omega)]), HTM.out]
        exact ho3)
      have HB3 := Lib.hid (show Below w.heap.size w w3 from (bnext HBr.out HBA.out).grown hg3 (by simp; omega) (fun k e => (hrow k e).1))
      have HJ3 := Lib.hid (show ∀ j, j < i + 1 → Jobs w3 (upd sl i (.slice s2 tn cp2) j) (T j).n (T j).f ∧ NotIn (upd sl i (.slice s2 tn cp2) j) v3.ownBlock from fun j hj => by
        have hgb : ∀ (v' : Value) (nn : Nat) (ff : Nat → Jb), Jobs w2 v' nn ff → NotIn v' mv.ownBlock → Jobs w3 v' nn ff ∧ NotIn v' v3.ownBlock := fun v' nn ff hj' hn' => by
          have hj2 := hj'.below ((Below.refl w2.heap.size w2).alloc (Nat.le_refl _) (.cells #[.int .i64 tp, .slice s2 tn cp2, .int .i64 kg, .int .i64 ko, .int .i64 kn, .int .i64 kd, .int .i64 kc, .int .i64 kt] KT))
          refine ⟨hj2.grown hg3 hn', ?_⟩
          rcases hat3 with e | e
          · rw [e]; exact hn'
          · rw [e]; exact NotIn.old hj2 (by simp)
        by_cases e : j = i
        · subst e
          rw [upd_same]
          rw [← HTT.out]
          have h1 := hgb (.slice s2 tn cp2) tn tf (own_jobs HO2.out (by have := HOI.out.2; omega)) (NotIn.new HO2.out (fun b hb => (hrow b hb).2))
          exact h1
        · rw [upd_ne _ e]
          have h1 := HJS.out j (by omega)
          exact hgb (sl j) (T j).n (T j).f (h1.1.below HB2.out) h1.2)
      clear ho3 hg3 hat3
      go_wp2_with fail
      go_roundw
      case rel => exact ⟨i + 1, _, _, rfl, by go_num, by omega, HR3, HJ3, HB3⟩
      case measure => simp [intOf]; omega
    · have hg3 : decide (i < m) = false := decide_eq_false him
      obtain rfl : i = m := by omega
      clear him
      have hM : Tasks wr mv i (tm T sl) := own_tasks HO.out (by omega) (fun j hj => (HJS.out j hj).1)
      have HM := Lib.hid hM
      have HPM := Lib.hid (ppick mv i (tm T sl) wr hM)
      rw [pickS_tm] at HPM
      have HPL := Lib.hid (fun (W : World) (hb : Below wr.heap.size wr W) => HPR.out W (bnext HBr.out hb))
      generalize pickS T i = pk at HPM HPL
      obtain ⟨p2, cap2, rfl, _⟩ := hM
      clear HO HJS HPR
      go_wp2_with fail
      refine HPM.out.mono ?_
      rintro e w2 ⟨rfl, hb2⟩
      have HB2 := Lib.hid hb2
      clear hb2
      go_wp2_with fail
      refine (HPL.out _ HB2.out).mono ?_
      rintro e w3 ⟨rfl, hb3⟩
      have HB3 := Lib.hid (bnext HB2.out hb3)
      clear hb3 HB2 HPL HPM
      go_wp2_with fail
      go_loopw [7] (fun iv W => ∃ j : Nat, iv = .int .i64 j ∧ j ≤ i ∧ Hid (Below wr.heap.size wr W)) (fun iv _ => i - (intOf iv).toNat)
      case atStart => exact ⟨0, rfl, Nat.zero_le _, HB3⟩
      case round =>
        clear HB3
        rename_i WR _
        obtain ⟨j, rfl, hj, HBJ⟩ := hrel
        by_cases hjm : j < i
        · have hjm' : (j : Int) < (i : Int) := by omega
          obtain ⟨q', cap', e, hat⟩ := (HT.out.below (bnext HBr.out HBJ.out)).at8
          cases e
          obtain ⟨q', cap', e, hat2⟩ := (HM.out.below HBJ.out).at8
          cases e
          obtain ⟨b, off, rfl, ha8, hJ⟩ := hat j hjm
          obtain ⟨b2, off2, rfl, ha82, hJ2⟩ := hat2 j hjm
          have hbl := ha8.lt
          have hbl2 := ha82.lt
          have hc := (HOK.out j hjm).1
          unfold tm at ha82 hJ2
          clear hat hat2
          generalize T j = tt at ha8 hJ ha82 hJ2 hc
          generalize sl j = sj at ha82 hJ2
          obtain ⟨tp, ts, tn, tf, k⟩ := tt
          dsimp only at ha8 hJ ha82 hJ2 hc
          have HA := Lib.hid ha8
          have HA2 := Lib.hid ha82
          have HPW := Lib.hid (fun (W : World) (hb : Below _ _ W) => pwait tp sj tn tf k now W (hJ2.below hb) hc)
          have HRW := Lib.hid (fun (W : World) (hb : Below _ _ W) => rwait tp ts tn tf k now W (hJ.below hb))
          have HPK := Lib.hid (fun (W : World) (hb : Below _ _ W) => pwork tp sj tn tf k W (hJ2.below hb) hc)
          have HRK := Lib.hid (fun (W : World) (hb : Below _ _ W) => rwork tp ts tn tf k W (hJ.below hb))
          have HSA := Lib.hid (fun (W : World) (hb : Below _ _ W) => same_true tp sj ts tn tf k W (hJ2.below hb) (hJ.below hb))
          have HSB := Lib.hid (fun (W : World) => same_true tp (.slice none 0 0) (.slice none 0 0) 0 tf k W (jobs_none W none 0 0 tf rfl) (jobs_none W none 0 0 tf rfl))
          generalize waitV tp tn tf k now = wv at HPW HRW
          generalize (if okT tp tn tf k then workS tf tn else 0) = wk at HPK HRK
          obtain ⟨wa, wb⟩ := wv
          obtain ⟨s1, cp1, rfl, _⟩ := hJ
          obtain ⟨s2, cp2, rfl, _⟩ := hJ2
          have HPD := Lib.hid (fun (W : World) => pdrop tp s2 tn cp2 k W)
          have HRD := Lib.hid (fun (W : World) => rdrop tp s1 tn cp1 k W)
          clear hc
          obtain ⟨kg, ko, kn, kd, kc, kt⟩ := k
          obtain ⟨c0, c1, c2, c3, c4, c5, c6, c7⟩ := ha82
          dsimp only at c0 c1 c2 c3 c4 c5 c6 c7
          go_wp2_with fail
          refine (HPW.out _ (Below.refl _ _)).mono ?_
          rintro e w4 ⟨rfl, hb4⟩
          have HB4 := Lib.hid hb4
          clear c0 c1 c2 c3 c4 c5 c6 c7 hb4
          obtain ⟨c0, c1, c2, c3, c4, c5, c6, c7⟩ := ha8.below HB4.out
          dsimp only at c0 c1 c2 c3 c4 c5 c6 c7
          go_wp2_with fail
          refine (HRW.out _ HB4.out).mono ?_
          rintro e w5 ⟨rfl, hb5⟩
          have HB5 := Lib.hid (bnext HB4.out hb5)
          clear c0 c1 c2 c3 c4 c5 c6 c7 hb5 HB4
          obtain ⟨c0, c1, c2, c3, c4, c5, c6, c7⟩ := HA2.out.below HB5.out
          dsimp only at c0 c1 c2 c3 c4 c5 c6 c7
          go_wp2_with fail
          refine (HPD.out _).mono ?_
          rintro e w6 ⟨rfl, hb6⟩
          have HB6 := Lib.hid (bnext HB5.out hb6)
          clear c0 c1 c2 c3 c4 c5 c6 c7 hb6 HB5
          obtain ⟨c0, c1, c2, c3, c4, c5, c6, c7⟩ := HA.out.below (HB6.out.alloc HB6.out.size (.cells #[.int .i64 tp, .slice none 0 0, .int .i64 kg, .int .i64 ko, .int .i64 kn, .int .i64 kd, .int .i64 kc, .int .i64 kt] KT))
          dsimp only at c0 c1 c2 c3 c4 c5 c6 c7
          go_wp2_with fail
          refine (HRD.out _).mono ?_
          rintro e w7 ⟨rfl, hb7⟩
          have HB7 := Lib.hid hb7
          clear c0 c1 c2 c3 c4 c5 c6 c7 hb7
          go_upto_region 15 with fail
          clear ha8
          obtain ⟨WB, hWB⟩ : ∃ WB, WB = w7.alloc (.cells #[.int .i64 tp, .slice none 0 0, .int .i64 kg, .int .i64 ko, .int .i64 kn, .int .i64 kd, .int .i64 kc, .int .i64 kt] KT) := ⟨_, rfl⟩
          have HY := Lib.hid (show HasT WB w7.heap.size tp (.slice none 0 0) ⟨kg, ko, kn, kd, kc, kt⟩ from by rw [hWB]; exact hasT_new _ _ _ ⟨kg, ko, kn, kd, kc, kt⟩)
          have HB8 := Lib.hid (show Below (w6.alloc (.cells #[.int .i64 tp, .slice none 0 0, .int .i64 kg, .int .i64 ko, .int .i64 kn, .int .i64 kd, .int .i64 kc, .int .i64 kt] KT)).heap.size (w6.alloc (.cells #[.int .i64 tp, .slice none 0 0, .int .i64 kg, .int .i64 ko, .int .i64 kn, .int .i64 kd, .int .i64 kc, .int .i64 kt] KT)) WB from by rw [hWB]; exact HB7.out.alloc HB7.out.size _)
          have HX := Lib.hid (show HasT WB w6.heap.size tp (.slice none 0 0) ⟨kg, ko, kn, kd, kc, kt⟩ from (hasT_new w6 _ _ ⟨kg, ko, kn, kd, kc, kt⟩).below HB8.out)
          have HBB := Lib.hid (show Below wr.heap.size wr WB from bnext (HB6.out.alloc HB6.out.size _) HB8.out)
          have HW := Lib.hid hWB
          clear hWB HB7 HB8 HB6 HPW HRW HPD HRD
          rw [← HW.out]
          clear HW
          obtain ⟨C, hCd⟩ : ∃ C : World → Prop, C = fun W' => Below WB.heap.size WB W' := ⟨_, rfl⟩
          refine region_class C (by kernel_rfl) (by kernel_rfl) (by rw [hCd]; exact below_drewOne) ?_
          have HC := Lib.hid (show ∀ W, C W → Below wr.heap.size wr W from fun W hW => by rw [hCd] at hW; exact bnext HBB.out hW)
          have HCA2 := Lib.hid (show ∀ W, C W → At8 W b2 (off2 + j * 8) ⟨tp, .slice s2 tn cp2, tn, tf, ⟨kg, ko, kn, kd, kc, kt⟩⟩ from fun W hW => HA2.out.below (HC.out W hW))
          have HCA := Lib.hid (show ∀ W, C W → At8 W b (off + j * 8) ⟨tp, .slice s1 tn cp1, tn, tf, ⟨kg, ko, kn, kd, kc, kt⟩⟩ from fun W hW => HA.out.below (HC.out W hW))
          have HCX := Lib.hid (show ∀ W, C W → HasT W w6.heap.size tp (.slice none 0 0) ⟨kg, ko, kn, kd, kc, kt⟩ from fun W hW => by rw [hCd] at hW; exact HX.out.below hW)
          have HCY := Lib.hid (show ∀ W, C W → HasT W w7.heap.size tp (.slice none 0 0) ⟨kg, ko, kn, kd, kc, kt⟩ from fun W hW => by rw [hCd] at hW; exact HY.out.below hW)
          have HCn := Lib.hid (show ∀ W W', C W → Below W.heap.size W W' → C W' from fun W W' hW hb => by rw [hCd] at hW ⊢; exact bnext hW hb)
          clear hCd
          with_reducible refine wpQuiet_step ?_
          intro K hK
          go_simp
          first
            | refine hK _ ?_
            | refine ⟨_, fun _ _ => rfl, hK _ ?_⟩
          clear hK K
          with_reducible refine wpQuiet_step ?_
          intro K hK
          go_simp
          first
            | refine hK _ ?_
            | refine ⟨_, fun _ _ => rfl, hK _ ?_⟩
          clear hK K
          with_reducible refine wpQuiet_step ?_
          intro K hK
          go_simp
          first
            | refine hK _ ?_
            | refine ⟨_, fun _ _ => rfl, hK _ ?_⟩
          clear hK K
          with_reducible refine wpQuiet_step ?_
          intro K hK
          go_simp
          first
            | refine hK _ ?_
            | (apply Exists.intro
               refine ⟨fun W hW => ?_, hK _ ?_⟩
               focus
                 obtain ⟨x0, x1, x2, x3, x4, x5, x6, x7⟩ := HCA2.out W hW
                 dsimp only at x0 x1 x2 x3 x4 x5 x6 x7
                 go_simp
                 rfl)
          clear hK K
          with_reducible refine wpQuiet_step ?_
          intro K hK
          go_simp
          apply Exists.intro
          refine ⟨fun W hW => ?_, hK _ ?_⟩
          focus
            refine (HPK.out W (HC.out W hW)).mono ?_
            rintro e w3 ⟨rfl, hb⟩
            exact ⟨rfl, HCn.out _ _ hW hb⟩
          clear hK K
          with_reducible refine wpQuiet_step ?_
          intro K hK
          go_simp
          first
            | refine hK _ ?_
            | refine ⟨_, fun _ _ => rfl, hK _ ?_⟩
          clear hK K
          with_reducible refine wpQuiet_step ?_
          intro K hK
          go_simp
          first
            | refine hK _ ?_
            | refine ⟨_, fun _ _ => rfl, hK _ ?_⟩
          clear hK K
          with_reducible refine wpQuiet_step ?_
          intro K hK
          go_simp
          first
            | refine hK _ ?_
            | refine ⟨_, fun _ _ => rfl, hK _ ?_⟩
          clear hK K
          with_reducible refine wpQuiet_step ?_
          intro K hK
          go_simp
          first
            | refine hK _ ?_
            | (apply Exists.intro
               refine ⟨fun W hW => ?_, hK _ ?_⟩
               focus
                 obtain ⟨x0, x1, x2, x3, x4, x5, x6, x7⟩ := HCA.out W hW
                 dsimp only at x0 x1 x2 x3 x4 x5 x6 x7
                 go_simp
                 rfl)
          clear hK K
          with_reducible refine wpQuiet_step ?_
          intro K hK
          go_simp
          apply Exists.intro
          refine ⟨fun W hW => ?_, hK _ ?_⟩
          focus
            refine (HRK.out W (HC.out W hW)).mono ?_
            rintro e w3 ⟨rfl, hb⟩
            exact ⟨rfl, HCn.out _ _ hW hb⟩
          clear hK K
          with_reducible refine wpQuiet_step ?_
          intro K hK
          go_simp
          first
            | refine hK _ ?_
            | refine ⟨_, fun _ _ => rfl, hK _ ?_⟩
          clear hK K
          with_reducible refine wpQuiet_step ?_
          intro K hK
          go_simp
          first
            | refine hK _ ?_
            | refine ⟨_, fun _ _ => rfl, hK _ ?_⟩
          clear hK K
          with_reducible refine wpQuiet_step ?_
          intro K hK
          go_simp
          first
            | refine hK _ ?_
            | refine ⟨_, fun _ _ => rfl, hK _ ?_⟩
          clear hK K
          with_reducible refine wpQuiet_step ?_
          intro K hK
          go_simp
          first
            | refine hK _ ?_
            | refine ⟨_, fun _ _ => rfl, hK _ ?_⟩
          clear hK K
          with_reducible refine wpQuiet_step ?_
          intro K hK
          go_simp
          first
            | refine hK _ ?_
            | refine ⟨_, fun _ _ => rfl, hK _ ?_⟩
          clear hK K
          with_reducible refine wpQuiet_step ?_
          intro K hK
          go_simp
          first
            | refine hK _ ?_
            | refine ⟨_, fun _ _ => rfl, hK _ ?_⟩
          clear hK K
          with_reducible refine wpQuiet_step ?_
          intro K hK
          go_simp
          first
            | refine hK _ ?_
            | refine ⟨_, fun _ _ => rfl, hK _ ?_⟩
          clear hK K
          with_reducible refine wpQuiet_step ?_
          intro K hK
          go_simp
          first
            | refine hK _ ?_
            | refine ⟨_, fun _ _ => rfl, hK _ ?_⟩
          clear hK K
          with_reducible refine wpQuiet_step ?_
          intro K hK
          go_simp
          first
            | refine hK _ ?_
            | refine ⟨_, fun _ _ => rfl, hK _ ?_⟩
          clear hK K
          with_reducible refine wpQuiet_step ?_
          intro K hK
          go_simp
          first
            | refine hK _ ?_
            | refine ⟨_, fun _ _ => rfl, hK _ ?_⟩
          clear hK K
          with_reducible refine wpQuiet_step ?_
          intro K hK
          go_simp
          first
            | refine hK _ ?_
            | refine ⟨_, fun _ _ => rfl, hK _ ?_⟩
          clear hK K
          with_reducible refine wpQuiet_step ?_
          intro K hK
          go_simp
          first
            | refine hK _ ?_
            | refine ⟨_, fun _ _ => rfl, hK _ ?_⟩
          clear hK K
          with_reducible refine wpQuiet_step ?_
          intro K hK
          go_simp
          first
            | refine hK _ ?_
            | (apply Exists.intro
               refine ⟨fun W hW => ?_, hK _ ?_⟩
               focus
                 obtain ⟨x0, x1, x2, x3, x4, x5, x6, x7⟩ := (HCX.out W hW).cells
                 go_simp
                 rfl)
          clear hK K
          with_reducible refine wpQuiet_step ?_
          intro K hK
          go_simp
          first
            | refine hK _ ?_
            | (apply Exists.intro
               refine ⟨fun W hW => ?_, hK _ ?_⟩
               focus
                 obtain ⟨x0, x1, x2, x3, x4, x5, x6, x7⟩ := (HCY.out W hW).cells
                 go_simp
                 rfl)
          clear hK K
          with_reducible refine wpQuiet_step ?_
          intro K hK
          go_simp
          apply Exists.intro
          refine ⟨fun W hW => ?_, hK _ ?_⟩
          focus
            refine (HSB.out W).mono ?_
            rintro e w3 ⟨rfl, hb⟩
            exact ⟨rfl, HCn.out _ _ hW hb⟩
          clear hK K
          with_reducible refine wpQuiet_step ?_
          intro K hK
          go_simp
          first
            | refine hK _ ?_
            | refine ⟨_, fun _ _ => rfl, hK _ ?_⟩
          clear hK K
          with_reducible refine wpQuiet_step ?_
          intro K hK
          go_simp
          first
            | refine hK _ ?_
            | refine ⟨_, fun _ _ => rfl, hK _ ?_⟩
          clear hK K
          with_reducible refine wpQuiet_step ?_
          intro K hK
          go_simp
          first
            | refine hK _ ?_
            | refine ⟨_, fun _ _ => rfl, hK _ ?_⟩
          clear hK K
          with_reducible refine wpQuiet_step ?_
          intro K hK
          go_simp
          first
            | refine hK _ ?_
            | refine ⟨_, fun _ _ => rfl, hK _ ?_⟩
          clear hK K
          with_reducible refine wpQuiet_step ?_
          intro K hK
          go_simp
          first
            | refine hK _ ?_
            | refine ⟨_, fun _ _ => rfl, hK _ ?_⟩
          clear hK K
          with_reducible refine wpQuiet_step ?_
          intro K hK
          go_simp
          first
            | refine hK _ ?_
            | refine ⟨_, fun _ _ => rfl, hK _ ?_⟩
          clear hK K
          with_reducible refine wpQuiet_step ?_
          intro K hK
          go_simp
          first
            | refine hK _ ?_
            | refine ⟨_, fun _ _ => rfl, hK _ ?_⟩
          clear hK K
          with_reducible refine wpQuiet_step ?_
          intro K hK
          go_simp
          first
            | refine hK _ ?_
            | refine ⟨_, fun _ _ => rfl, hK _ ?_⟩
          clear hK K
          with_reducible refine wpQuiet_step ?_
          intro K hK
          go_simp
          first
            | refine hK _ ?_
            | refine ⟨_, fun _ _ => rfl, hK _ ?_⟩
          clear hK K
          with_reducible refine wpQuiet_step ?_
          intro K hK
          go_simp
          first
            | refine hK _ ?_
            | refine ⟨_, fun _ _ => rfl, hK _ ?_⟩
          clear hK K
          with_reducible refine wpQuiet_step ?_
          intro K hK
          go_simp
          first
            | refine hK _ ?_
            | refine ⟨_, fun _ _ => rfl, hK _ ?_⟩
          clear hK K
          with_reducible refine wpQuiet_step ?_
          intro K hK
          go_simp
          first
            | refine hK _ ?_
            | (apply Exists.intro
               refine ⟨fun W hW => ?_, hK _ ?_⟩
               focus
                 obtain ⟨x0, x1, x2, x3, x4, x5, x6, x7⟩ := HCA2.out W hW
                 dsimp only at x0 x1 x2 x3 x4 x5 x6 x7
                 go_simp
                 rfl)
          clear hK K
          with_reducible refine wpQuiet_step ?_
          intro K hK
          go_simp
          first
            | refine hK _ ?_
            | refine ⟨_, fun _ _ => rfl, hK _ ?_⟩
          clear hK K
          with_reducible refine wpQuiet_step ?_
          intro K hK
          go_simp
          first
            | refine hK _ ?_
            | refine ⟨_, fun _ _ => rfl, hK _ ?_⟩
          clear hK K
          with_reducible refine wpQuiet_step ?_
          intro K hK
          go_simp
          first
            | refine hK _ ?_
            | refine ⟨_, fun _ _ => rfl, hK _ ?_⟩
          clear hK K
          with_reducible refine wpQuiet_step ?_
          intro K hK
          go_simp
          first
            | refine hK _ ?_
            | (apply Exists.intro
               refine ⟨fun W hW => ?_, hK _ ?_⟩
               focus
                 obtain ⟨x0, x1, x2, x3, x4, x5, x6, x7⟩ := HCA.out W hW
                 dsimp only at x0 x1 x2 x3 x4 x5 x6 x7
                 go_simp
                 rfl)
          clear hK K
          with_reducible refine wpQuiet_step ?_
          intro K hK
          go_simp
          apply Exists.intro
          refine ⟨fun W hW => ?_, hK _ ?_⟩
          focus
            refine (HSA.out W (HC.out W hW)).mono ?_
            rintro e w3 ⟨rfl, hb⟩
            exact ⟨rfl, HCn.out _ _ hW hb⟩
          clear hK K
          with_reducible refine wpQuiet_step ?_
          intro K hK
          go_simp
          first
            | refine hK _ ?_
            | refine ⟨_, fun _ _ => rfl, hK _ ?_⟩
          clear hK K
          with_reducible refine wpQuiet_step ?_
          intro K hK
          go_simp
          first
            | refine hK _ ?_
            | refine ⟨_, fun _ _ => rfl, hK _ ?_⟩
          clear hK K
          with_reducible refine wpQuiet_nil ?_
          intro W hW
          have HBN := Lib.hid (bnext HBJ.out (HC.out W hW))
          go_wp2_with fail
          go_roundw
          case rel => exact ⟨j + 1, by go_num, by omega, HBN⟩
          case measure => simp [intOf]; omega
        · have hg3 : decide (j < i) = false := decide_eq_false hjm
          obtain rfl : j = i := by omega
          clear hjm
          go_wp2_with fail
          refine (HWK.out _ (bnext HBr.out HBJ.out)).mono ?_
          rintro e w6 ⟨rfl, hb6⟩
          have HB6 := Lib.hid (bnext (bnext HBr.out HBJ.out) hb6)
          clear hb6
          go_wp2_with fail
          go_ret
          exact ⟨rfl, HB6.out⟩
end Go.Proofs.YtpfhebfkhailfaaDoor
