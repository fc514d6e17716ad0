/- The law's own do: a Create; no condition but those that each row names. -/
import Derived.Test.YtedgchafligndaaGreatJB13
import Derived.Test.YtedgchafligndaaGreatJKJDoG
namespace Go.Proofs.YtedgchafligndaaGreat
open Go.RowKit Tsk

theorem DoPost.drew {S X : Nat → Prop} {B : Nat} {w : World} {v wv : Value} {L : List Int} {e : Ending} {w' : World} (h : DoPost S X B w v wv L e w') : DoPost S X B w v wv L e w'.drew := by
  obtain ⟨X', A', T', la', gs', ts', ks', wv', L', now', h1, h2, h3, h4, h5, h6⟩ := h
  exact ⟨X', A', T', la', gs', ts', ks', wv', L', now', h1, h2.below below_drewOne, h3, h4, h5, h6.drew⟩
theorem keeps_grown {w w' : World} {row : Option Nat} (h : w.grownBy w' row) : Keeps (fun x => row = some x) w w' := ⟨h.os, h.tape, h.output, h.size, fun b hb hn => h.block b hb (fun e => hn e.symm)⟩
set_option maxHeartbeats 8000000 in
set_option maxRecDepth 100000 in
theorem do_cre (S X : Nat → Prop) (B : Nat) (A : Tab) (T : Nat → Tk) (la now k i p l c a d : Int) (v gs ts ks wv : Value) (L : List Int) (w : World) (hin : Ro S X B w A T la v gs ts ks wv L) (hL : L.length ≤ 4000) (hk : kd k = 0) :
    Calls Tryz.prog 12 #[runv gs ts ks la wv now, v, av7 k i p l c a d] w (DoPost S X B w v wv L) := by
  have HIN := Lib.hid hin
  have hkw := kd_wrap k
  unfold kd at hk
  obtain ⟨bl, rfl, _⟩ := id hin.pl.ptr
  obtain ⟨p1, cp1, p2, cp2, p3, cp3, _, rfl, rfl, rfl, _⟩ := hin.dp.shape hin.pi.good
  obtain ⟨pw, cw, rfl⟩ := own_slice hin.row
  obtain ⟨hB, hbw, hsz⟩ := beg_new w (.slice p1 16 cp1) (.slice p2 16 cp2) (.slice p3 16 cp3) la (.slice pw L.length cw) now k i p l c a d
  obtain ⟨WA, hWA⟩ : ∃ WA, WA = begW w (.slice p1 16 cp1) (.slice p2 16 cp2) (.slice p3 16 cp3) la (.slice pw L.length cw) now k i p l c a d := ⟨_, rfl⟩
  rw [← hWA] at hB hbw hsz
  have HB := Lib.hid hB
  have HBW := Lib.hid hbw
  have HSZ := Lib.hid hsz
  have HRO := Lib.hid (show Ro S (XZ X w) B WA A T la (.pointer (some ⟨bl, 0, none⟩)) (.slice p1 16 cp1) (.slice p2 16 cp2) (.slice p3 16 cp3) (.slice pw L.length cw) L from hin.wide (fun x hx q => by rcases q with q | q; exact q; omega) (fun x q => .inl q) hbw (fun x q => by rcases q with q | q; have := hin.xw x q; omega; omega))
  have HSL := Lib.hid (fun x (hx : S x) => (show B ≤ x ∧ x < w.heap.size from hin.pl.lt x hx))
  have HPK := Lib.hid (fun W (hb : Below WA.heap.size WA W) => pick_any (.slice p1 16 cp1) (.slice p2 16 cp2) (.slice p3 16 cp3) (.slice pw L.length cw) la now i L W (Lst.of_own (own_under HRO.out.row hb) (ints_len _) (by omega) (fun _ _ _ q => q)))
  unfold begW at hWA
  have HW := Lib.hid hWA
  clear hWA hB hbw hsz hin
  generalize pkH L i = hh at *
  go_enter Tryz.func12, Tryz.ntmps12
  go_upto_region 1 with fail
  rw [← HW.out]
  obtain ⟨a0, a1, a2, a3, a4, a5⟩ := HB.out.r.cells
  obtain ⟨b0, b1, b2, b3, b4, b5, b6⟩ := HB.out.o.cells
  go_wp2_with fail
  refine (HPK.out WA (Below.refl _ _)).mono ?_
  rintro e w1 ⟨rfl, hb1⟩
  have HRO1 := Lib.hid (HRO.out.below hb1)
  have HB1 := Lib.hid (HB.out.below hb1)
  have HBW1 := Lib.hid (bnext HBW.out hb1)
  have HS1 := Lib.hid (show w.heap.size + 3 ≤ w1.heap.size from by have := HSZ.out; have := hb1.size; omega)
  clear a0 a1 a2 a3 a4 a5 b0 b1 b2 b3 b4 b5 b6 hb1
  obtain ⟨a0, a1, a2, a3, a4, a5⟩ := HB1.out.r.cells
  obtain ⟨b0, b1, b2, b3, b4, b5, b6⟩ := HB1.out.o.cells
  have HRR := Lib.hid (rcre14 (XZ X w) A T la HRO1.out.pi.good p _ _ _ w1 HRO1.out.dp HRO1.out.xw)
  unfold PoolH at HRR
  have HPI := Lib.hid (HRO.out.pi.add p)
  have HPP := Lib.hid (fun W (hp : Pl S (XZ X w) B W A T la (.pointer (some ⟨bl, 0, none⟩))) => plcreate S (XZ X w) B A T la HRO.out.pi.good W _ hp HRO.out.sx p)
  unfold PlPost at HPP
  generalize addA A p = A' at *
  generalize addT A T p = T' at *
  generalize addN A p = an at *
  generalize addH A p = ah at *
  go_wp2_with fail
  refine HRR.out.mono ?_
  rintro e w2 ⟨gs2, ts2, ks2, rfl, hd2, hb2⟩
  obtain ⟨q1, cq1, q2, cq2, q3, cq3, _, rfl, rfl, rfl, _⟩ := hd2.shape HPI.out.good
  obtain ⟨hp3, hd3, hr3, hx3, hk3⟩ := HRO1.out.laid HIN.out hb2 hd2 (.slice q1 16 cq1) (.slice q2 16 cq2) (.slice q3 16 cq3) (.int .i64 la)
  have hB3 := (HB1.out.below hb2).setM (gs' := .slice q1 16 cq1) (ts' := .slice q2 16 cq2) (ks' := .slice q3 16 cq3) (la' := la)
  have HB2 := Lib.hid (HB1.out.below hb2)
  clear a0 a1 a2 a3 a4 a5 b0 b1 b2 b3 b4 b5 b6 HRR hb2 hd2
  obtain ⟨a0, a1, a2, a3, a4, a5⟩ := HB2.out.r.cells
  have fr := fun j => has_free HB2.out.r j
  go_upto_region 7 with fail
  obtain ⟨W3, hW3⟩ : ∃ W3, W3 = st4 w2 w.heap.size (.slice q1 16 cq1) (.slice q2 16 cq2) (.slice q3 16 cq3) (.int .i64 la) := ⟨_, rfl⟩
  rw [← hW3] at hp3 hd3 hr3 hx3 hk3 hB3
  unfold st4 at hW3
  rw [← hW3]
  have HP3 := Lib.hid hp3
  have HD3 := Lib.hid hd3
  have HR3 := Lib.hid hr3
  have HK3 := Lib.hid hk3
  have HB3 := Lib.hid hB3
  have HX3 := Lib.hid hx3
  have HCL := Lib.hid (HPP.out W3 HP3.out)
  clear hW3 hp3 hd3 hr3 hx3 hk3 hB3 a0 a1 a2 a3 a4 a5 fr HB2 HPP
  obtain ⟨b0, b1, b2, b3, b4, b5, b6⟩ := HB3.out.o.cells
  go_wp2_with fail
  refine HCL.out.mono ?_
  rintro e w4 ⟨rfl, hp4, hk4⟩
  have hB4 := HB3.out.keeps hk4 (fun x hx => (HSL.out x hx).2)
  have HB4 := Lib.hid hB4
  have HP4 := Lib.hid hp4
  have HK4 := Lib.hid hk4
  have HD4 := Lib.hid (HD3.out.keeps (hk4.mono HRO.out.sx))
  have HR4 := Lib.hid (own_keep HR3.out hk4 HRO.out.rs)
  have HS4 := Lib.hid (show w.heap.size + 3 ≤ w4.heap.size ∧ B ≤ w4.heap.size from by
    have h1 := HS1.out
    have h2 := HK3.out.size
    have h3 := hk4.size
    obtain ⟨bx, _, hs⟩ := HIN.out.pl.ptr
    have h4 := HSL.out bx hs
    omega)
  have HKW := Lib.hid (show Keeps S w w4 from (Keeps.of_below (below_keeps HBW1.out HK3.out (fun x e => by omega))).trans hk4)
  clear b0 b1 b2 b3 b4 b5 b6 hB4 hp4 hk4 HCL
  obtain ⟨a0, a1, a2, a3, a4, a5⟩ := HB4.out.r.cells
  have hs4 := HS4.out
  obtain ⟨i0, hi, hz0, hz1, hz2⟩ := info_parts Tryz.info60
  go_wp2_with (at_builtin; refine wpList_append_own_at _ rfl _ _ 47 rfl B 60 i0 (.int .i64 0) 1 8 Tryz.underlying47 hi hz0 hz1 hz2 rfl (by decide) (.slice pw L.length cw) L.length (ints L) rfl (HR4.out.alloc _) ⟨w4.heap.size, 0, none⟩ 1 1 [.int .i64 ah] rfl rfl (news_one w4 _ _) (by intro u hu; simp at hu; subst hu; rfl) (by unfold maxLen; omega) (by omega) (by simp; omega) ?_)
  intro v5 w5 hown5 hgrow5 hne5 hat5
  obtain ⟨p5, c5, rfl⟩ := own_slice hown5
  have hka : Below w4.heap.size w4 (w4.alloc (.cells #[.int .i64 ah] 60)) := (Below.refl _ _).alloc (Nat.le_refl _) _
  have hkg : Keeps (fun x => (Value.slice pw L.length cw).ownBlock = some x) w4 w5 := (Keeps.of_below hka).trans (keeps_grown hgrow5)
  obtain ⟨Y, hY⟩ : ∃ Y : Nat → Prop, Y = fun x => XZ X w x ∨ (Value.slice p5 (L.length + 1) c5).ownBlock = some x := ⟨_, rfl⟩
  have hXY : ∀ x, XZ X w x → Y x := fun x q => by rw [hY]; exact .inl q
  have hYX : ∀ x, x < w4.heap.size → Y x → XZ X w x := fun x hx q => by
    rw [hY] at q
    rcases q with q | q
    · exact q
    · rcases hat5 with e | e
      · exact .inl (HIN.out.rx x (e ▸ q))
      · rw [e] at q; cases q; omega
  have hrX : ∀ x, (Value.slice pw L.length cw).ownBlock = some x → Y x := fun x e => hXY x (.inl (HIN.out.rx x e))
  have hSr : ∀ x, S x → ¬ (Value.slice pw L.length cw).ownBlock = some x := fun x hx e => HIN.out.rs x e hx
  have h0r : ∀ g, (Value.slice pw L.length cw).ownBlock = some g → g < w.heap.size := fun g e => HIN.out.xw g (HIN.out.rx g e)
  have hP5 := (HP4.out.mono hYX).keeps hkg hSr hrX
  have hD5 := (HD4.out.mono hYX).keeps (hkg.mono hrX)
  have hB5 := HB4.out.keeps hkg h0r
  have HW5 := Lib.hid (show ∀ g, (Value.slice p5 (L.length + 1) c5).ownBlock = some g → Y g ∧ ¬ S g ∧ g ≠ w.heap.size + 1 + 1 ∧ ((Value.slice pw L.length cw).ownBlock = some g ∨ w.heap.size ≤ g) ∧ g ≠ w.heap.size from fun g e => by
    refine ⟨by rw [hY]; exact .inr e, ?_⟩
    rcases hat5 with e2 | e2
    · rw [e2] at e
      have := h0r g e
      exact ⟨HIN.out.rs g e, by omega, .inl e, by omega⟩
    · rw [e2] at e
      cases e
      exact ⟨fun q => by have := (HSL.out _ q).2; omega, by omega, .inr (by omega), by omega⟩)
  have HP5 := Lib.hid hP5
  have HD5 := Lib.hid hD5
  have HB5 := Lib.hid hB5
  have HO5 := Lib.hid (show w5.ownsRow B HTy 1 (.slice p5 (L.length + 1) c5) (L ++ [ah]).length (ints (L ++ [ah])) from by
    rw [← ints_snoc, List.length_append]; exact hown5)
  have HKG := Lib.hid hkg
  have HXY := Lib.hid hXY
  have HS5 := Lib.hid hkg.size
  clear hka hkg hXY hYX hrX hSr h0r hP5 hD5 hB5 hown5 hgrow5 hne5 hat5 hY a0 a1 a2 a3 a4 a5 i0 hi hz0 hz1 hz2
  obtain ⟨a0, a1, a2, a3, a4, a5⟩ := HB5.out.r.cells
  have fr := fun j => has_free HB5.out.r j
  have k6 := (Keeps.refl (fun x => x = w.heap.size) w5).setCell ⟨w.heap.size, 4, none⟩ (.slice p5 (L.length + 1) c5) (.inl rfl)
  have h6r := HB5.out.r.setW (wv' := .slice p5 (L.length + 1) c5)
  have h6z := has_keeps HB5.out.z k6 (by omega)
  go_upto_region 9 with fail
  obtain ⟨W6, hW6⟩ : ∃ W6, W6 = w5.setCell ⟨w.heap.size, 4, none⟩ (.slice p5 (L.length + 1) c5) := ⟨_, rfl⟩
  rw [← hW6] at k6 h6r h6z ⊢
  have HK6 := Lib.hid k6
  have H6R := Lib.hid h6r
  have H6Z : Hid (HasR W6 (w.heap.size + 1 + 1) N0 N0 N0 0 N0 0) := Lib.hid h6z
  have HNU := Lib.hid (fun W => num_any an W)
  have hq1 : ((ah : Int) == ah) = true := by simp
  have hq2 : ((an : Int) == an) = true := by simp
  clear a0 a1 a2 a3 a4 a5 fr k6 h6r h6z hW6
  obtain ⟨a0, a1, a2, a3, a4, a5⟩ := H6R.out.cells
  obtain ⟨y0, y1, y2, y3, y4, y5⟩ := H6Z.out.cells
  have fz := fun j => has_free H6Z.out j
  go_region_law ((go_simp; go_at_call 8; refine (HNU.out _).mono ?_; rintro e wn ⟨rfl, rfl⟩))
  all_goals
    go_wp2_with fail
    refine bodyPost_ret (v := .tuple #[runv (.slice q1 16 cq1) (.slice q2 16 cq2) (.slice q3 16 cq3) la (.slice p5 (L.length + 1) c5) now, .bool true]) (by simp [results, Tryz.results12, go_sem, y0, y1, y2, y3, y4, y5]) rfl ?_
    have HQ := Lib.hid (show ∀ x, x = w.heap.size → Y x from fun x e => HXY.out x (.inr ⟨by omega, by omega⟩))
    have HP6 := HP5.out.keeps HK6.out (fun x hx e => by have := (HSL.out x hx).2; omega) HQ.out
    have HD6 := HD5.out.keeps (HK6.out.mono HQ.out)
    have HR6 := own_keep HO5.out HK6.out (fun g e => (HW5.out g e).2.2.2.2)
    have HFIN := HIN.out.fin HPI.out HP6 HD6 HR6 (by rw [List.length_append]; exact Nat.le_refl _) (fun x q => HXY.out x (.inl q)) (HXY.out _ (.inr ⟨by omega, by omega⟩)) (fun g e => ⟨(HW5.out g e).1, (HW5.out g e).2.1, (HW5.out g e).2.2.1, (HW5.out g e).2.2.2.1⟩) (by have h1 := HS4.out; have h2 := HS5.out; have h3 := HK6.out.size; omega) (((HKW.out.mono (fun x q => .inl q)).trans (HKG.out.mono (fun x q => .inr q))).far HK6.out (fun x e => by omega)) now
    first
      | (with_reducible exact HFIN.drew)
      | (with_reducible exact HFIN)
end Go.Proofs.YtedgchafligndaaGreat
