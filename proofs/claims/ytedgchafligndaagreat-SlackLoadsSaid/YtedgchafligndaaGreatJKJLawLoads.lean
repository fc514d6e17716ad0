/- The walk of the law SlackLoads: it answers true whatever is laid, whatever is done behind it; no condition but that the tasks are no more than memory holds. -/
import Derived.Test.YtedgchafligndaaGreatJKJLdL
namespace Go.Proofs.YtedgchafligndaaGreat
open Go.RowKit Tsk

abbrev StT : TypeId := 26
def HasS (W : World) (g : Nat) (a b c : Value) (z : Int) : Prop := Has W g (.cells #[a, b, c, .int .i64 z] StT (0, 0))
theorem HasS.cells {W : World} {g : Nat} {a b c : Value} {z : Int} (x : HasS W g a b c z) : W.cell? ⟨g, 0, none⟩ = some a ∧ W.cell? ⟨g, 1, none⟩ = some b ∧ W.cell? ⟨g, 2, none⟩ = some c ∧ W.cell? ⟨g, 3, none⟩ = some (.int .i64 z) :=
  ⟨(has_cell x 0).trans rfl, (has_cell x 1).trans rfl, (has_cell x 2).trans rfl, (has_cell x 3).trans rfl⟩
theorem HasS.below {W W' : World} {g : Nat} {a b c : Value} {z : Int} (h : HasS W g a b c z) (hb : Below W.heap.size W W') : HasS W' g a b c z := (hb.block g (has_lt h)).trans h
theorem Opsz.at {w W : World} {q : Option Addr} {m cap : Nat} {O : Nat → Oz} (h : Opsz w (.slice q m cap) m O) (hb : Below w.heap.size w W) {i : Nat} (hi : i < m) : ∃ b off, q = some ⟨b, off, none⟩ ∧ b < w.heap.size ∧ W.cell? ⟨b, off + i * 7, none⟩ = some (.int .i64 (O i).k) ∧ W.cell? ⟨b, off + i * 7 + 1, none⟩ = some (.int .i64 (O i).n) ∧ W.cell? ⟨b, off + i * 7 + 2, none⟩ = some (.int .i64 (O i).h) ∧ W.cell? ⟨b, off + i * 7 + 3, none⟩ = some (.int .i64 (O i).j.l) ∧ W.cell? ⟨b, off + i * 7 + 4, none⟩ = some (.int .i64 (O i).j.c) ∧ W.cell? ⟨b, off + i * 7 + 5, none⟩ = some (.int .i64 (O i).j.a) ∧ W.cell? ⟨b, off + i * 7 + 6, none⟩ = some (.int .i64 (O i).j.d) := by
  obtain ⟨_, _, e, _, hc⟩ := h
  simp only [Value.slice.injEq] at e
  obtain ⟨b, off, e2, c0, c1, c2, c3, c4, c5, c6⟩ := hc i hi
  have hl : b < w.heap.size := cell_lt c0
  have k := fun (o : Nat) => hb.cell (p := ⟨b, o, none⟩) hl
  exact ⟨b, off, by rw [e.1]; exact e2, hl, (k _).trans c0, (k _).trans c1, (k _).trans c2, (k _).trans c3, (k _).trans c4, (k _).trans c5, (k _).trans c6⟩
set_option maxHeartbeats 8000000 in
set_option maxRecDepth 100000 in
theorem loads_any (gens : List Int) (taken : List Bool) (m : Nat) (TT : Nat → Tk) (last : Int) (gv tv kv mv : Value) (mm : Nat) (O : Nat → Oz) (w : World) (hg : Lst (fun _ => False) w gv (ints gens)) (ht : Lst (fun _ => False) w tv (bools taken)) (hk : Tasks w kv m TT)
    (hgb : gens.length * 8 ≤ 140737488355328) (htb : taken.length ≤ 140737488355328) (hm80 : m * 80 ≤ 140737488355328)
    (hok : ∀ j, j < m → (TT j).k.c ≤ 9223372036854775807 ∧ (TT j).n * 32 ≤ 140737488355328) (hO : Opsz w mv mm O) :
    Calls Tryz.prog 3 #[.agg #[gv, tv, kv, .int .i64 last], mv] w fun e w' => e = .returned (.bool true) ∧ Below w.heap.size w w' := by
  have HOP := Lib.hid hO
  have HG := Lib.hid hg
  have HTN := Lib.hid ht
  have HK := Lib.hid hk
  have HOK := Lib.hid hok
  have HM := Lib.hid hm80
  have HWK := Lib.hid (fun W => works_any W)
  obtain ⟨i0, hi, hz0, hz1, hz2⟩ := info_parts Tryz.info3
  obtain ⟨j0, ji, jz0, jz1, jz2⟩ := info_parts Tryz.info4
  obtain ⟨k0, ki, kz0, kz1, kz2⟩ := info_parts Tryz.infTk
  obtain ⟨qg, cg, rfl, _, _⟩ := hg
  obtain ⟨qt, ct, rfl, _, _⟩ := ht
  obtain ⟨qk, ck, rfl, hm63, _⟩ := hk
  obtain ⟨qm, cm, rfl, hmm63, _⟩ := hO
  rw [ints_len] at HG ⊢
  rw [bools_len] at HTN ⊢
  obtain ⟨ng, hng⟩ : ∃ ng, ng = gens.length := ⟨_, rfl⟩
  obtain ⟨nt, hnt⟩ : ∃ nt, nt = taken.length := ⟨_, rfl⟩
  rw [← hng] at HG hgb ⊢
  rw [← hnt] at HTN htb ⊢
  have HNG := Lib.hid (⟨hng, hnt⟩ : _ ∧ _)
  clear hok hm80 hng hnt
  obtain ⟨WA, hWA⟩ : ∃ WA, WA = w.alloc (.cells #[.slice qg ng cg, .slice qt nt ct, .slice qk m ck, .int .i64 last] StT) := ⟨_, rfl⟩
  have HB := Lib.hid (show Below w.heap.size w WA ∧ WA.heap.size = w.heap.size + 1 from by rw [hWA]; exact ⟨(Below.refl _ _).alloc (Nat.le_refl _) _, by simp⟩)
  have HX := Lib.hid (show HasS WA w.heap.size (.slice qg ng cg) (.slice qt nt ct) (.slice qk m ck) last from by rw [hWA]; exact has_new _ _ _ rfl)
  have HW := Lib.hid hWA
  clear hWA
  go_enter Tryz.func3, Tryz.ntmps3
  go_upto_region 1 with fail
  rw [← HW.out]
  obtain ⟨a0, a1, a2, a3⟩ := HX.out.cells
  go_wp2_with (at_builtin; refine wpList_append_ints rfl _ _ rfl WA.heap.size (.slice none 0 0) 0 [] rfl (World.ownsRow_nil _ _ _ _) _ ng (ints gens) rfl (src_lst (HG.out.below HB.out.1) (by rw [ints_len]; exact HNG.out.1.symm)) ints_one (by omega) (Nat.le_refl _) ?_)
  intro pg cpg w1 ho1 hg1 _
  have HO1 := Lib.hid (show w1.ownsRow WA.heap.size 3 1 (.slice pg ng cpg) ng (ints gens) from by simpa using ho1)
  have HB1 := Lib.hid (below_of_grown hg1)
  clear ho1 hg1 a0 a1 a2 a3
  have HX1 := Lib.hid (HX.out.below HB1.out)
  obtain ⟨a0, a1, a2, a3⟩ := HX1.out.cells
  have hs1 := HB1.out.size
  go_wp2_with (at_builtin; refine wpList_append_bools rfl _ _ rfl w1.heap.size (.slice none 0 0) 0 [] rfl (World.ownsRow_nil _ _ _ _) _ nt (bools taken) rfl (src_lst (HTN.out.below (bnext HB.out.1 HB1.out)) (by rw [bools_len]; exact HNG.out.2.symm)) bools_one (by omega) (Nat.le_refl _) ?_)
  intro pt cpt w2 ho2 hg2 _
  have HO2 := Lib.hid (show w2.ownsRow w1.heap.size 4 1 (.slice pt nt cpt) nt (bools taken) from by simpa using ho2)
  have HB2 := Lib.hid (below_of_grown hg2)
  clear ho2 hg2 a0 a1 a2 a3
  have HX2 := Lib.hid (HX1.out.below HB2.out)
  have HB0 := Lib.hid (bnext (bnext HB.out.1 HB1.out) HB2.out)
  have HSZ := Lib.hid (show WA.heap.size ≤ w1.heap.size ∧ w1.heap.size ≤ w2.heap.size ∧ w.heap.size < WA.heap.size from ⟨HB1.out.size, HB2.out.size, by have := HB.out.2; omega⟩)
  have HO1' := Lib.hid (own_under HO1.out HB2.out)
  have HGB := Lib.hid (⟨hgb, htb⟩ : _ ∧ _)
  clear HX HX1 hs1 HB HB1 HB2 HW HO1 hgb htb
  go_wp2_with fail
  go_loopw [7, 8] (fun kv iv wr => ∃ (i : Nat) (sr : Nat → Value), iv = .int .i64 i ∧ i ≤ m ∧ Hid (CpI w2 TT i kv sr wr)) (fun _ iv _ => m - (intOf iv).toNat)
  case atStart => exact ⟨0, fun _ => .slice none 0 0, rfl, Nat.zero_le _, Lib.hid ⟨World.ownsRow_nil _ _ _ _, fun j hj => absurd hj (Nat.not_lt_zero _), Below.refl _ _⟩⟩
  case round =>
    obtain ⟨i, sr, rfl, him, HC⟩ := hrel
    obtain ⟨pkv, ckv, hkv, hck⟩ := own_small HC.out.row
    subst hkv
    have HX3 := Lib.hid (HX2.out.below HC.out.bel)
    obtain ⟨a0, a1, a2, a3⟩ := HX3.out.cells
    have z0 : (0 : Int) ≤ (i : Int) := by omega
    by_cases hlt : i < m
    · have z1 : (i : Int) < (m : Int) := by omega
      obtain ⟨_, _, e, _, hc⟩ := HK.out.below (bnext HB0.out HC.out.bel)
      simp only [Value.slice.injEq] at e
      obtain ⟨bk, ok, e2, d0, d1, d2, d3, d4, d5, d6, d7, hJ⟩ := hc i hlt
      have e3 : qk = some ⟨bk, ok, none⟩ := by rw [e.1]; exact e2
      subst e3
      have hni := (HOK.out i hlt).2
      have HST := Lib.hid (fun s W4 w5 (hb : Below wr.heap.size wr W4) (hs : JobsO wr.heap.size W4 s (TT i).n (TT i).f) pn c ho hg ha => HC.out.step (W4 := W4) (w5 := w5) (s := s) (pn := pn) (c := c) hb hs ho hg ha)
      have HUR := Lib.hid (fun s => tkL_upd TT sr i s)
      have HTW := Lib.hid (rtwin (TT i).p (TT i).s (TT i).n (TT i).f (TT i).k wr hJ hni)
      obtain ⟨t, ht⟩ : ∃ t, t = TT i := ⟨_, rfl⟩
      rw [← ht] at d0 d1 d2 d3 d4 d5 d6 d7 HST HUR HTW hJ hni
      clear ht hc e e2
      obtain ⟨tp, ts0, tn, tf, ⟨kg, ko, kn, kd, kc, kt⟩⟩ := t
      obtain ⟨s1, cs1, hs1, _⟩ := id hJ
      dsimp only at d0 d1 d2 d3 d4 d5 d6 d7 HST HUR HTW hs1 hni
      subst hs1
      clear hJ
      have hbk : bk < wr.heap.size := cell_lt d0
      have HD := Lib.hid (⟨d0, d1, d2, d3, d4, d5, d6, d7⟩ : _ ∧ _ ∧ _ ∧ _ ∧ _ ∧ _ ∧ _ ∧ _)
      have HCE := Lib.hid (fun W (hb : Below wr.heap.size wr W) => show _ ∧ _ from ⟨HasS.cells (HX3.out.below hb), (show _ ∧ _ ∧ _ ∧ _ ∧ _ ∧ _ ∧ _ ∧ _ from by
        have kk := fun (o : Nat) => hb.cell (p := ⟨bk, o, none⟩) hbk
        obtain ⟨d0, d1, d2, d3, d4, d5, d6, d7⟩ := HD.out
        exact ⟨(kk _).trans d0, (kk _).trans d1, (kk _).trans d2, (kk _).trans d3, (kk _).trans d4, (kk _).trans d5, (kk _).trans d6, (kk _).trans d7⟩)⟩)
      have HLS := Lib.hid (show w2.heap.size ≤ wr.heap.size ∧ w.heap.size < w2.heap.size from ⟨HC.out.bel.size, by have := HSZ.out; omega⟩)
      have HLTF := Lib.hid (fun (W : World) (hb : Below wr.heap.size wr W) => show w2.heap.size ≤ W.heap.size ∧ w.heap.size < W.heap.size ∧ bk < W.heap.size from by have h1 := hb.size; have h2 := HLS.out; exact ⟨by omega, by omega, by omega⟩)
      have hml := HM.out
      clear HD
      go_wp2_with fail
      refine HTW.out.mono ?_
      rintro e w4 ⟨xv, rfl, s4, c4, rfl, hj4, hb4⟩
      have HJ4 := Lib.hid hj4
      have HB4 := Lib.hid hb4
      have hs4 := hb4.size
      have hls := HLS.out
      clear hj4 hb4 a0 a1 a2 a3 d0 d1 d2 d3 d4 d5 d6 d7 HCE HLTF
      go_wp2_with (at_builtin; refine wpList_append_tasks rfl _ _ rfl w2.heap.size (.slice pkv i ckv) i (tkL (tm TT sr) i) rfl ((own_under HC.out.row HB4.out).alloc _) _ 1 [.int .i64 tp, .slice s4 tn c4, .int .i64 kg, .int .i64 ko, .int .i64 kn, .int .i64 kd, .int .i64 kc, .int .i64 kt] rfl (src_onet w4 tp (.slice s4 tn c4) ⟨kg, ko, kn, kd, kc, kt⟩ _) ?a1 ?a2 ?a3 ?_)
      case a1 => intro u hu; simp only [List.mem_cons, List.not_mem_nil, or_false] at hu; rcases hu with rfl | rfl | rfl | rfl | rfl | rfl | rfl | rfl <;> rfl
      case a2 => omega
      case a3 => simp; omega
      intro pn cn w5 ho5 hg5 ha5
      rw [← HUR.out] at ho5
      have HL5 := Lib.hid (HST.out (.slice s4 tn c4) _ w5 (HB4.out.alloc HB4.out.size _) (World.ownsRow.alloc HJ4.out _) pn cn ho5 hg5 (fun g e => (ha5 g e).imp id (fun q => by simpa using q)))
      clear ho5 hg5 ha5
      go_wp2_with fail
      go_roundw
      case rel => exact ⟨i + 1, _, by go_num, by omega, HL5⟩
      case measure => simp [intOf]; omega
    · obtain rfl : m = i := by omega
      clear hlt z0
      have HTK := Lib.hid (HC.out.tasks hm63 (fun j hj => by have := (HOK.out j hj).2; omega))
      have HLG := Lib.hid (Lst.of_own (S := fun _ => False) (own_under HO1'.out HC.out.bel) (by rw [ints_len]; exact HNG.out.1.symm) (by have := HGB.out.1; omega) (fun _ _ _ k => k))
      have HLT := Lib.hid (Lst.of_own (S := fun _ => False) (own_under HO2.out HC.out.bel) (by rw [bools_len]; exact HNG.out.2.symm) (by have := HGB.out.2; omega) (fun _ _ _ k => k))
      have HBR := Lib.hid (bnext HB0.out HC.out.bel)
      by_cases hok : okL gens taken m TT last
      · have HOKL := Lib.hid hok
        have HP := Lib.hid (ld_yes HLG.out HLT.out HTK.out HOK.out hok)
        unfold LoadPl at HP
        have HR := Lib.hid (fun W (hb : Below w.heap.size w W) => rld_yes (HG.out.below hb) (HTN.out.below hb) (HK.out.below hb) hok)
        clear hok
        go_wp2_with fail
        refine HP.out.mono ?_
        rintro e w3 ⟨S, v3, rfl, hL, hb3⟩
        have HLF := Lib.hid hL
        have HB3 := Lib.hid hb3
        obtain ⟨bl, rfl, _⟩ := (hL (fun _ => False) (fun _ k => k.elim)).ptr
        have HX4 := Lib.hid (HX3.out.below hb3)
        clear hL hb3 a0 a1 a2 a3 HP
        obtain ⟨a0, a1, a2, a3⟩ := HX4.out.cells
        go_wp2_with fail
        refine (HR.out _ (bnext HBR.out HB3.out)).mono ?_
        rintro e w4 ⟨gs, ts, ks, sl, rfl, ho4, hb4⟩
        have HD := Lib.hid (ho4.dp (A := ldA gens taken) (X := fun x => x < w3.heap.size) HOKL.out.pi.good.len (by have := HOKL.out.pi.good.tab.lt; have := HOKL.out.pi.good.len; omega) (fun x hx => hx))
        obtain ⟨p1, cp1, p2, cp2, p3, cp3, _, rfl, rfl, rfl, _⟩ := HD.out.shape HOKL.out.pi.good
        have HB4 := Lib.hid hb4
        clear ho4 hb4 a0 a1 a2 a3 HR
        go_wp2_with fail
        obtain ⟨w5, hw5⟩ : ∃ w5, w5 = w4.alloc (.cells #[.slice p1 16 cp1, .slice p2 16 cp2, .slice p3 16 cp3, .int .i64 last] PT14) := ⟨_, rfl⟩
        have HM5 := Lib.hid (show Below w4.heap.size w4 w5 ∧ HasP w5 w4.heap.size (.slice p1 16 cp1) (.slice p2 16 cp2) (.slice p3 16 cp3) last from by rw [hw5]; exact ⟨(Below.refl _ _).alloc (Nat.le_refl _) _, hasP_new _ _ _ _ _⟩)
        rw [← hw5]
        clear hw5
        refine (num_nil _).mono ?_
        rintro e w6 ⟨rfl, rfl⟩
        have HB5 := Lib.hid (bnext (bnext (bnext HBR.out HB3.out) HB4.out) HM5.out.1)
        by_cases h2 : mm ≤ 2000
        · have h2' : ¬ (2000 : Int) < (mm : Int) := by omega
          obtain ⟨lb, hlb, hmi⟩ := HC.out.mine'
          obtain ⟨wk, rfl⟩ : ∃ wk, wk = wr := ⟨_, rfl⟩
          have HLB := Lib.hid hlb
          have HSI := Lib.hid (show StI w2 wk w5 lb m sr (fun j => (TT j).n) w5 from ⟨hmi.keeps (R := fun x => wk.heap.size ≤ x) (fun h0 => (hlb h0).2.2) (Nat.le_refl _) (Keeps.of_below (bnext (bnext HB3.out HB4.out) HM5.out.1)) (fun x q => q), Keeps.refl _ _⟩)
          clear hlb hmi
          go_wp2_with fail
          go_loopw [13, 14] (fun iv _ wl => ∃ j : Nat, iv = .int .i64 j ∧ j ≤ m ∧ Hid (StI w2 wk w5 lb m sr (fun j => (TT j).n) wl)) (fun iv _ _ => m - (intOf iv).toNat)
          case atStart => exact ⟨0, rfl, Nat.zero_le _, HSI⟩
          case round =>
            clear HSI
            obtain ⟨j, rfl, hjm, HSJ⟩ := hrel
            have z0 : (0 : Int) ≤ (j : Int) := by omega
            by_cases hjl : j < m
            · have z1 : (j : Int) < (m : Int) := by omega
              obtain ⟨rfl, hl1, hl2⟩ := HLB.out (by omega)
              obtain ⟨q, c, hsj, _⟩ := HSJ.out.mi.jb j hjl
              obtain ⟨nj, hnj⟩ : ∃ nj, nj = (TT j).n := ⟨_, rfl⟩
              rw [← hnj] at hsj
              have HNJ := Lib.hid hnj
              have hnj63 : nj ≤ 9223372036854775807 := by have := (HOK.out j hjl).2; omega
              have HSQ := Lib.hid hsj
              clear hsj hnj
              go_wp2_with fail
              go_loopw [14] (fun kv wl => ∃ k : Nat, kv = .int .i64 k ∧ k ≤ nj ∧ Hid (StI w2 wk w5 lb m sr (fun j => (TT j).n) wl)) (fun kv _ => nj - (intOf kv).toNat)
              case atStart => exact ⟨0, rfl, Nat.zero_le _, HSJ⟩
              case round =>
                clear HSJ
                obtain ⟨k, rfl, hkn, HSK⟩ := hrel
                have y0 : (0 : Int) ≤ (k : Int) := by omega
                have hd := HSK.out.mi.hd j hjl
                rw [HSQ.out] at hd
                by_cases hkl : k < nj
                · have y1 : (k : Int) < (nj : Int) := by omega
                  obtain ⟨q', c', e', hq⟩ := HSK.out.mi.jb j hjl
                  rw [HSQ.out] at e'
                  cases e'
                  obtain ⟨b, rfl, hb1, hb2, hb3, ⟨u, hu⟩, hf⟩ := hq k (by have := HNJ.out; show k < (TT j).n; omega)
                  have HN := Lib.hid (HSK.out.set ⟨b, k * 4, none⟩ (.int .i64 (-5)) (fun j' e => hb3 (congrArg Addr.block e)) ⟨hb1, hb2⟩)
                  clear hq
                  go_wp2_with fail
                  go_roundw
                  case rel => exact ⟨k + 1, by go_num, by omega, HN⟩
                  case measure => simp [intOf]; omega
                · obtain rfl : nj = k := by omega
                  have hf := HSK.out.mi.fz (by omega)
                  obtain ⟨u, hu⟩ := HSK.out.mi.pr j hjl
                  have HN := Lib.hid (HSK.out.set ⟨lb, j * 8, none⟩ (.int .i64 77) (fun j' e => absurd (congrArg Addr.off e) (by show ¬ (j * 8 = j' * 8 + 1); omega)) ⟨hl1, hl2⟩)
                  go_wp2_with fail
                  go_roundw
                  case rel => exact ⟨j + 1, by go_num, by omega, HN⟩
                  case measure => simp [intOf]; omega
            · obtain rfl : m = j := by omega
              clear hjl z0
              have HP3 := Lib.hid (HLF.out (fun x => x < wk.heap.size) (fun _ h => h))
              have HSL := Lib.hid (show ∀ x, S x → wk.heap.size ≤ x ∧ x < w3.heap.size from HP3.out.lt)
              have HSZ2 := Lib.hid (show w.heap.size ≤ wk.heap.size ∧ wk.heap.size ≤ w3.heap.size ∧ w3.heap.size ≤ w4.heap.size ∧ w4.heap.size < w5.heap.size ∧ w5.heap.size ≤ wr.heap.size from ⟨HBR.out.size, HB3.out.size, HB4.out.size, has_lt HM5.out.2, HSJ.out.ke.size⟩)
              have HPR := Lib.hid (((HP3.out.below HB4.out).below HM5.out.1).keeps HSJ.out.ke (fun x hx q => by have := (HSL.out x hx).1; omega) (fun x q => .inl q.2))
              have HDR := Lib.hid ((HD.out.below HM5.out.1).keeps (HSJ.out.ke.mono (fun x q => by have := HSZ2.out; show x < w3.heap.size; omega)))
              have HMR := Lib.hid (show HasP wr w4.heap.size (.slice p1 16 cp1) (.slice p2 16 cp2) (.slice p3 16 cp3) last from has_keeps HM5.out.2 HSJ.out.ke (fun q => by have := HSZ2.out; omega))
              have HBW := Lib.hid (show Below w.heap.size w wr from below_keeps HB5.out HSJ.out.ke (fun x q => by have := HSZ.out; have := HSZ2.out; omega))
              have HSV := Lib.hid (saved_yes _ _ _ _ _ _ _ HOKL.out.pi.good _ _ _ _ wr HPR.out HDR.out)
              obtain ⟨m0, m1, m2, m3⟩ := HMR.out.cells
              clear HP3 HLF HLB HSJ HB5 HM5 HB4 HD HC HTK HLG HLT HX4 HX3 HX2
              go_wp2_with fail
              refine HSV.out.mono ?_
              rintro e w7 ⟨rfl, hb7⟩
              have HP7 := Lib.hid (HPR.out.below hb7)
              have HD7 := Lib.hid (HDR.out.below hb7)
              have HM7 := Lib.hid (HMR.out.below hb7)
              have HB7 := Lib.hid (bnext HBW.out hb7)
              have HS7 := Lib.hid (show w3.heap.size ≤ w7.heap.size ∧ w.heap.size ≤ w7.heap.size from by have := hb7.size; have := HSZ2.out; omega)
              have HRL := Lib.hid (fun W (hb : Below w7.heap.size w7 W) => rlist14 _ _ _ _ HOKL.out.pi.good _ _ _ W (HD7.out.below hb))
              have HMX := Lib.hid (fun W (hb : Below w7.heap.size w7 W) => HasP.cells (HM7.out.below hb))
              have HLE := Lib.hid (show (ldA gens taken).all.length ≤ 16 from by rw [all_len]; have h1 := idxs_le2 (ldA gens taken); have h2 := HOKL.out.pi.good.len; omega)
              clear hb7 HPR HDR HMR HBW HSV m0 m1 m2 m3
              obtain ⟨m0, m1, m2, m3⟩ := HM7.out.cells
              have hltm : w4.heap.size < w7.heap.size := has_lt HM7.out
              have HPA := Lib.hid (fun w8 pw cw C (hb : Below w7.heap.size w7 w8) (hC : w7.heap.size ≤ C) hw => ldA_play (w := w) (w8 := w8) (wv := .slice pw (ldA gens taken).all.length cw) HOKL.out.pi HLE.out HP7.out (fun x q => .inr q) HD7.out (fun x q => (HSL.out x q).2) HS7.out.1 HSZ2.out.1 HB7.out (C := C) hb hC hw)
              have HPB := Lib.hid (fun w8 pw cw hb hw => ldB_play (w := w) (w8 := w8) (wv := .slice pw (ldA gens taken).all.length cw) HOKL.out.pi HLE.out HP7.out (fun x q => .inr q) HD7.out (fun x q => (HSL.out x q).2) HS7.out.1 HSZ2.out.1 HB7.out hb hw)
              go_upto_region 26 with fail
              go_cut [15] (fun rv wx => ∃ R, rv = .pointer (some ⟨R, 0, none⟩) ∧ Hid (w.heap.size ≤ R ∧ RunsW2 w S R (.pointer (some ⟨bl, 0, none⟩)) 0 wx))
              case first =>
                go_region_law (first
                  | (go_simp; go_at_call 11; refine (HRL.out _ below_drewOne).mono ?_; rintro e w8 ⟨wv, rfl, hw8, hb8⟩; rw [← all_len] at hw8; obtain ⟨pw, cw, rfl⟩ := own_slice hw8; have HZA := Lib.hid (HPA.out w8 pw cw w7.drew.heap.size (bnext below_drewOne hb8) (show w7.heap.size ≤ w7.heap.size from Nat.le_refl _) hw8); obtain ⟨m0, m1, m2, m3⟩ := HMX.out w8 (bnext below_drewOne hb8); have hltm8 : w4.heap.size < w8.heap.size := cell_lt m0; have HZR := Lib.hid (show w.heap.size ≤ w8.heap.size from (bnext HB7.out (bnext below_drewOne hb8)).size); clear hw8 hb8)
                  | (go_simp; go_at_call 11; refine (HRL.out _ ((Below.refl _ _).alloc (Nat.le_refl _) _).drew).mono ?_; rintro e w8 ⟨wv, rfl, hw8, hb8⟩; rw [← all_len] at hw8; obtain ⟨pw, cw, rfl⟩ := own_slice hw8; have HZB := Lib.hid (HPB.out w8 pw cw hb8 hw8); have HZX := Lib.hid (HasR.below (has_drew (hasR_new w7 N0 N0 N0 0 N0 0)) hb8); obtain ⟨x0, x1, x2, x3, x4, x5⟩ := HZX.out.cells; have fx := fun j => has_free HZX.out j; obtain ⟨m0, m1, m2, m3⟩ := HMX.out w8 (bnext ((Below.refl _ _).alloc (Nat.le_refl _) _).drew hb8); have hltm8 : w4.heap.size < w8.heap.size := cell_lt m0; have HZR := Lib.hid HS7.out.2; clear hw8 hb8))
                all_goals
                  go_wp2_with fail
                  go_meet
                  refine ⟨_, rfl, Lib.hid ⟨HZR.out, ?_⟩⟩
                  first
                    | (with_reducible exact HZA.out)
                    | (with_reducible exact HZB.out)
              case rest =>
                obtain ⟨R, rfl, hRP⟩ := hcut
                have HPL := Lib.hid hRP.out.2
                have HRW := Lib.hid hRP.out.1
                have HSLW := Lib.hid (show ∀ x, S x → w.heap.size ≤ x from fun x q => by have := HSL.out x q; have := HSZ2.out; omega)
                clear hRP HRL HMX HLE HPA HPB HP7 HD7 HM7 HB7 HS7 HSZ2 HSL m0 m1 m2 m3 hltm
                go_wp2_with fail
                go_loopw [16] (fun iv wr => ∃ k : Nat, iv = .int .i64 k ∧ k ≤ mm ∧ Hid (RunsW2 w S R (.pointer (some ⟨bl, 0, none⟩)) k wr)) (fun iv _ => mm - (intOf iv).toNat)
                case atStart => exact ⟨0, rfl, Nat.zero_le _, HPL⟩
                case round =>
                  clear HPL
                  obtain ⟨k, rfl, hkm, HP⟩ := hrel
                  obtain ⟨X, A, T, la, gs, ts, ks, wv, L, now, hp, hLk, hbw⟩ := HP.out
                  obtain ⟨p1, cp1, p2, cp2, p3, cp3, _, rfl, rfl, rfl, _⟩ := hp.ro.dp.shape hp.ro.pi.good
                  obtain ⟨pw, cw, rfl⟩ := own_slice hp.ro.row
                  have HPZ := Lib.hid hp
                  have HBW := Lib.hid hbw
                  have z0 : (0 : Int) ≤ (k : Int) := by omega
                  clear hp hbw HP
                  obtain ⟨a0, a1, a2, a3, a4, a5⟩ := HPZ.out.hr.cells
                  by_cases hlt : k < mm
                  · have z1 : (k : Int) < (mm : Int) := by omega
                    obtain ⟨b, off, rfl, hbl, e0, e1, e2, e3, e4, e5, e6⟩ := HOP.out.at HBW.out hlt
                    obtain ⟨o, ho⟩ : ∃ o, o = O k := ⟨_, rfl⟩
                    rw [← ho] at e0 e1 e2 e3 e4 e5 e6
                    clear ho
                    obtain ⟨ok, on, oh, ⟨ol, oc, oa, od⟩⟩ := o
                    dsimp only at e0 e1 e2 e3 e4 e5 e6
                    have HST1 := Lib.hid (do_any _ _ _ _ _ _ now ok on oh ol oc oa od _ _ _ _ _ _ _ (HPZ.out.ro.below below_drewOne) (by omega))
                    have HST2 := Lib.hid (do_any _ _ _ _ _ _ now ok on oh ol oc oa od _ _ _ _ _ _ _ (HPZ.out.in2 (W := (wr.alloc (.cells #[N0, N0, N0, .int .i64 0, N0, .int .i64 0] RT14)).drew) ((Below.refl _ _).alloc (Nat.le_refl _) _).drew (by simp [World.drew])) (by omega))
                    unfold DoPost at HST1 HST2
                    have hlb : b < wr.heap.size := Nat.lt_of_lt_of_le hbl HBW.out.size
                    have hlr : R < wr.heap.size := has_lt HPZ.out.hr
                    go_upto_region 30 with fail
                    have HXZ := Lib.hid (show ∀ W, Keeps (fun x => S x ∨ (Value.slice pw L.length cw).ownBlock = some x) (wr.alloc (.cells #[N0, N0, N0, .int .i64 0, N0, .int .i64 0] RT14)).drew W → HasR W wr.heap.size N0 N0 N0 0 N0 0 from fun W hk => has_keeps (has_drew (hasR_new wr N0 N0 N0 0 N0 0)) hk (by
                      rintro (q | q)
                      · have := (HPZ.out.ro.pl.lt _ q).2; omega
                      · have := HPZ.out.ro.xw _ (HPZ.out.ro.rx _ q); omega))
                    go_cut [17, 18] (fun xv kv wx => ∃ X' A' T' la' gs' ts' ks' wv' L' now' bx, xv = .pointer (some ⟨bx, 0, none⟩) ∧ kv = .bool true ∧ Hid (CutR S X' w.heap.size R wr (.pointer (some ⟨bl, 0, none⟩)) (.slice pw L.length cw) L.length A' T' la' gs' ts' ks' wv' L' now' bx wx))
                    case first =>
                      go_region_law (first
                        | (go_simp; go_at_call 12; refine HST1.out.mono ?_; rintro e w4 ⟨X', A', T', la', gs', ts', ks', wv', L', now', rfl, hr4, hl4, hx4, hw4, hk4⟩; obtain ⟨q1, cq1, q2, cq2, q3, cq3, _, rfl, rfl, rfl, _⟩ := hr4.dp.shape hr4.pi.good; obtain ⟨qw, dw, rfl⟩ := own_slice hr4.row; have HR4 := Lib.hid hr4; have HL4 := Lib.hid hl4; have HX4 := Lib.hid hx4; have HW4 := Lib.hid hw4; have HK4 := Lib.hid hk4; clear hr4 hl4 hx4 hw4 hk4)
                        | (go_simp; go_at_call 12; refine HST2.out.mono ?_; rintro e w4 ⟨X', A', T', la', gs', ts', ks', wv', L', now', rfl, hr4, hl4, hx4, hw4, hk4⟩; obtain ⟨q1, cq1, q2, cq2, q3, cq3, _, rfl, rfl, rfl, _⟩ := hr4.dp.shape hr4.pi.good; obtain ⟨qw, dw, rfl⟩ := own_slice hr4.row; have HR4 := Lib.hid hr4; have HL4 := Lib.hid hl4; have HX4 := Lib.hid hx4; have HW4 := Lib.hid hw4; have HK4 := Lib.hid hk4; have HZ4 := Lib.hid (HXZ.out _ hk4); obtain ⟨x0, x1, x2, x3, x4, x5⟩ := HZ4.out.cells; have fx := fun j => has_free HZ4.out j; clear hr4 hl4 hx4 hw4 hk4))
                      all_goals
                        go_wp2_with fail
                        go_meet
                        refine ⟨X', A', T', la', .slice q1 16 cq1, .slice q2 16 cq2, .slice q3 16 cq3, .slice qw L'.length dw, L', now', _, rfl, rfl, Lib.hid ?_⟩
                        first
                          | (with_reducible exact HPZ.out.cutA HR4.out HL4.out HX4.out HW4.out HK4.out)
                          | (with_reducible exact HPZ.out.cutB HR4.out HL4.out HX4.out HW4.out HK4.out)
                    case rest =>
                      obtain ⟨X', A', T', la', gs', ts', ks', wv', L', now', bx, rfl, rfl, HC⟩ := hcut
                      obtain ⟨q1, cq1, q2, cq2, q3, cq3, _, rfl, rfl, rfl, _⟩ := HC.out.ro.dp.shape HC.out.ro.pi.good
                      obtain ⟨qw, dw, rfl⟩ := own_slice HC.out.ro.row
                      clear a0 a1 a2 a3 a4 a5 e0 e1 e2 e3 e4 e5 e6 HST1 HST2 HXZ hlb hlr
                      obtain ⟨x0, x1, x2, x3, x4, x5⟩ := HC.out.hx.cells
                      obtain ⟨_, _, _, _, _, _, hr⟩ := HC.out.hr
                      obtain ⟨y0, y1, y2, y3, y4, y5⟩ := hr.cells
                      have fr := fun j => has_free hr j
                      have hne : ¬ R = bx := by have := HC.out.ne; omega
                      have hne2 : ¬ bx = R := by have := HC.out.ne; omega
                      have hT := HC.out.turn
                      have hBN : Below w.heap.size w _ := below_keeps HBW.out hT.2 (fun x q => by
                        rcases q with (q | q) | q
                        · exact HSLW.out x q
                        · exact (World.ownsRow.lt HPZ.out.ro.row x q).1
                        · have := HRW.out; omega)
                      have HLN := Lib.hid (show L'.length ≤ k + 1 + 16 from by have := HC.out.len; omega)
                      clear hr
                      go_upto_region 32 with fail
                      obtain ⟨W6, hW6⟩ : ∃ W6, W6 = st6 wc R (.slice q1 16 cq1) (.slice q2 16 cq2) (.slice q3 16 cq3) (.int .i64 la') (.slice qw L'.length dw) (.int .i64 now') := ⟨_, rfl⟩
                      rw [← hW6] at hT hBN
                      unfold st6 at hW6
                      rw [← hW6]
                      have HT := Lib.hid hT.1
                      have HBN := Lib.hid hBN
                      have HSV := Lib.hid (saved_yes _ _ _ _ _ _ _ HT.out.ro.pi.good _ _ _ _ _ HT.out.ro.pl HT.out.ro.dp)
                      clear hW6 hT hBN x0 x1 x2 x3 x4 x5 y0 y1 y2 y3 y4 y5 fr hne hne2
                      obtain ⟨a0, a1, a2, a3, a4, a5⟩ := HT.out.hr.cells
                      go_wp2_with fail
                      refine HSV.out.mono ?_
                      rintro e w7 ⟨rfl, hb7⟩
                      have HT7 := Lib.hid (HT.out.below hb7)
                      have HB7 := Lib.hid (bnext HBN.out hb7)
                      clear hb7
                      go_wp2_with fail
                      go_roundw
                      case rel => exact ⟨k + 1, by go_num, by omega, Lib.hid ⟨X', A', T', la', _, _, _, _, L', now', HT7.out, HLN.out, HB7.out⟩⟩
                      case measure => simp [intOf]; omega
                  · obtain rfl : mm = k := by omega
                    clear hlt
                    go_wp2_with fail
                    refine (HWK.out wr).mono ?_
                    rintro e w5 ⟨rfl, hb5⟩
                    go_wp2_with fail
                    go_ret
                    exact ⟨rfl, bnext HBW.out hb5⟩
        · have h2' : (2000 : Int) < (mm : Int) := by omega
          go_wp2_with fail
          refine (HWK.out _).mono ?_
          rintro e w6 ⟨rfl, hb6⟩
          go_wp2_with fail
          go_ret
          exact ⟨rfl, bnext HB5.out hb6⟩
      · have HNO := Lib.hid (ldN_ne gens last)
        have HP := Lib.hid (ld_no HLG.out HLT.out HTK.out HOK.out hok)
        have HR := Lib.hid (fun W (hb : Below w.heap.size w W) => rld_no (HG.out.below hb) (HTN.out.below hb) (HK.out.below hb) hok)
        clear hok
        obtain ⟨n, hn⟩ : ∃ n, n = ldN gens last := ⟨_, rfl⟩
        rw [← hn] at HNO HP HR
        have hn0 : n ≠ 0 := HNO.out
        have HEV := Lib.hid (errV_ne hn0)
        rw [HEV.out] at HP
        clear hn
        go_wp2_with fail
        refine HP.out.mono ?_
        rintro e w3 ⟨rfl, hb3⟩
        have HB3 := Lib.hid (bnext HBR.out hb3)
        have HX4 := Lib.hid (HX3.out.below hb3)
        clear hb3 a0 a1 a2 a3 HP
        obtain ⟨a0, a1, a2, a3⟩ := HX4.out.cells
        go_wp2_with fail
        refine (HR.out _ HB3.out).mono ?_
        rintro e w4 ⟨rfl, hb4⟩
        have HB4 := Lib.hid (bnext HB3.out hb4)
        have HNU := Lib.hid (num_errno n)
        clear hb4 a0 a1 a2 a3
        go_wp2_with fail
        refine (HNU.out _).mono ?_
        rintro e w5 ⟨rfl, rfl⟩
        go_wp2_with fail
        · rename_i h0
          exact absurd h0 (by simp [HNO.out])
        refine (HWK.out _).mono ?_
        rintro e w6 ⟨rfl, hb6⟩
        go_wp2_with fail
        go_ret
        exact ⟨rfl, bnext (HB4.out.alloc HB4.out.size _) hb6⟩
end Go.Proofs.YtedgchafligndaaGreat
