/- The law's own do: a Give; no condition but those that each row names. -/
import Derived.Test.YtedgchafligndaaGreatJB13
namespace Go.Proofs.YtedgchafligndaaGreat
open Go.RowKit Tsk

theorem Keeps.far {S R : Nat → Prop} {a b c : World} (h : Keeps S a b) (k : Keeps R b c) (hR : ∀ x, R x → a.heap.size ≤ x) : Keeps S a c :=
  ⟨k.os.trans h.os, k.tape.trans h.tape, k.output.trans h.output, Nat.le_trans h.size k.size, fun x hx hn => (k.block x (Nat.lt_of_lt_of_le hx h.size) (fun r => by have := hR x r; omega)).trans (h.block x hx hn)⟩
set_option maxHeartbeats 8000000 in
set_option maxRecDepth 100000 in
theorem do_giv5 (S X : Nat → Prop) (B : Nat) (A : Tab) (T : Nat → Tk) (la now k i p l c a d : Int) (v gs ts ks wv : Value) (L : List Int) (w : World) (hin : Ro S X B w A T la v gs ts ks wv L) (hL : L.length ≤ 4000) (hk : kd k = 5) :
    Calls Tryz.prog 12 #[runv gs ts ks la wv now, v, av7 k i p l c a d] w (DoPost S X B w v wv L) := by
  have HIN := Lib.hid hin
  have hkw := kd_wrap k
  unfold kd at hk
  obtain ⟨bl, rfl, _⟩ := id hin.pl.ptr
  obtain ⟨p1, cp1, p2, cp2, p3, cp3, _, rfl, rfl, rfl, _⟩ := hin.dp.shape hin.pi.good
  obtain ⟨pw, cw, rfl⟩ := own_slice hin.row
  obtain ⟨hB, hbw, hsz⟩ := beg_new w (.slice p1 16 cp1) (.slice p2 16 cp2) (.slice p3 16 cp3) la (.slice pw L.length cw) now k i p l c a d
  obtain ⟨WA, hWA⟩ : ∃ WA, WA = begW w (.slice p1 16 cp1) (.slice p2 16 cp2) (.slice p3 16 cp3) la (.slice pw L.length cw) now k i p l c a d := ⟨_, rfl⟩
  rw [← hWA] at hB hbw hsz
  have HB := Lib.hid hB
  have HBW := Lib.hid hbw
  have HSZ := Lib.hid hsz
  have HRO := Lib.hid (show Ro S (XZ X w) B WA A T la (.pointer (some ⟨bl, 0, none⟩)) (.slice p1 16 cp1) (.slice p2 16 cp2) (.slice p3 16 cp3) (.slice pw L.length cw) L from hin.wide (fun x hx q => by rcases q with q | q; exact q; omega) (fun x q => .inl q) hbw (fun x q => by rcases q with q | q; have := hin.xw x q; omega; omega))
  have HSL := Lib.hid (fun x (hx : S x) => (show B ≤ x ∧ x < w.heap.size from hin.pl.lt x hx))
  have HPK := Lib.hid (fun W (hb : Below WA.heap.size WA W) => pick_any (.slice p1 16 cp1) (.slice p2 16 cp2) (.slice p3 16 cp3) (.slice pw L.length cw) la now i L W (Lst.of_own (own_under HRO.out.row hb) (ints_len _) (by omega) (fun _ _ _ q => q)))
  unfold begW at hWA
  have HW := Lib.hid hWA
  clear hWA hB hbw hsz hin
  generalize pkH L i = hh at *
  go_enter Tryz.func12, Tryz.ntmps12
  go_upto_region 1 with fail
  rw [← HW.out]
  obtain ⟨a0, a1, a2, a3, a4, a5⟩ := HB.out.r.cells
  obtain ⟨b0, b1, b2, b3, b4, b5, b6⟩ := HB.out.o.cells
  go_wp2_with fail
  refine (HPK.out WA (Below.refl _ _)).mono ?_
  rintro e w1 ⟨rfl, hb1⟩
  have HRO1 := Lib.hid (HRO.out.below hb1)
  have HB1 := Lib.hid (HB.out.below hb1)
  have HBW1 := Lib.hid (bnext HBW.out hb1)
  have HS1 := Lib.hid (show w.heap.size + 3 ≤ w1.heap.size from by have := HSZ.out; have := hb1.size; omega)
  clear a0 a1 a2 a3 a4 a5 b0 b1 b2 b3 b4 b5 b6 hb1
  obtain ⟨a0, a1, a2, a3, a4, a5⟩ := HB1.out.r.cells
  obtain ⟨b0, b1, b2, b3, b4, b5, b6⟩ := HB1.out.o.cells
  have HPG := Lib.hid (plgive S (XZ X w) B A T la HRO.out.pi.good w1 _ HRO1.out.pl HRO.out.sx HRO1.out.xw now)
  have HRG := Lib.hid (fun W (hd : DP (XZ X w) W A T (.slice p1 16 cp1) (.slice p2 16 cp2) (.slice p3 16 cp3)) (hx : ∀ x, XZ X w x → x < W.heap.size) => rgive14 (XZ X w) A T la HRO.out.pi.good _ _ _ W hd hx now)
  have HPI := Lib.hid (HRO.out.pi.give now)
  unfold PlPost at HPG
  unfold GiveR at HRG
  generalize gvT A T la now = T' at *
  generalize gvN A T la now = la' at *
  generalize gvH A T la now = gh at *
  generalize gvW A T la now = gm at *
  generalize gvL A T la now = gl at *
  generalize gvU A T la now = gu at *
  have hq1 : ((gh : Int) == gh) = true := by simp
  have hq2 : ((gm : Int) == gm) = true := by simp
  have hq3 : ((gl : Int) == gl) = true := by simp
  have hq4 : (gu == gu) = true := by simp
  go_wp2_with fail
  refine HPG.out.mono ?_
  rintro e w2 ⟨rfl, hp2, hk2⟩
  have hBk := HB1.out.keeps hk2 (fun x hx => (HSL.out x hx).2)
  have HB2 := Lib.hid hBk
  have HP2 := Lib.hid hp2
  have HK2 := Lib.hid hk2
  have HD2 := Lib.hid (HRO1.out.dp.keeps (hk2.mono HRO.out.sx))
  have HR2 := Lib.hid (own_keep HRO1.out.row hk2 HRO.out.rs)
  have HX2 := Lib.hid (show ∀ x, XZ X w x → x < w2.heap.size from fun x hx => Nat.lt_of_lt_of_le (HRO1.out.xw x hx) hk2.size)
  clear a0 a1 a2 a3 a4 a5 b0 b1 b2 b3 b4 b5 b6 hBk hp2 hk2 HPG
  obtain ⟨a0, a1, a2, a3, a4, a5⟩ := HB2.out.r.cells
  go_wp2_with fail
  refine (HRG.out w2 HD2.out HX2.out).mono ?_
  rintro e w3 ⟨gs2, ts2, ks2, rfl, hd3, hb3⟩
  obtain ⟨q1, cq1, q2, cq2, q3, cq3, _, rfl, rfl, rfl, _⟩ := hd3.shape HPI.out.good
  obtain ⟨W3, hW3⟩ : ∃ W3, W3 = w3.alloc (.cells #[.slice q1 16 cq1, .slice q2 16 cq2, .slice q3 16 cq3, .int .i64 la'] PT14) := ⟨_, rfl⟩
  have hb3a : Below w3.heap.size w3 W3 := by rw [hW3]; exact (Below.refl _ _).alloc (Nat.le_refl _) _
  have HM3 := Lib.hid (show HasP W3 w3.heap.size (.slice q1 16 cq1) (.slice q2 16 cq2) (.slice q3 16 cq3) la' from by rw [hW3]; exact hasP_new _ _ _ _ _)
  have HD3 := Lib.hid (hd3.below hb3a)
  have HB3 := Lib.hid (HB2.out.below (bnext hb3 hb3a))
  have HBX := Lib.hid (bnext hb3 hb3a)
  have HNE := Lib.hid (show w.heap.size + 3 ≤ w3.heap.size from by have h1 := HS1.out; have h2 := HK2.out.size; have h3 := hb3.size; omega)
  have HWX := Lib.hid hW3
  clear a0 a1 a2 a3 a4 a5 hd3 hb3 hb3a hW3
  go_upto_region 23 with fail
  rw [← HWX.out]
  generalize w3.heap.size = bm at *
  obtain ⟨a0, a1, a2, a3, a4, a5⟩ := HB3.out.r.cells
  obtain ⟨m0, m1, m2, m3⟩ := HM3.out.cells
  have fr := fun j => has_free HB3.out.r j
  have hne : ¬ bm = w.heap.size := by have := HNE.out; omega
  have hne2 : ¬ w.heap.size = bm := by have := HNE.out; omega
  have k4 := keeps_st4 (R := fun x => x = w.heap.size) (Keeps.refl _ W3) (.inl rfl) (.slice q1 16 cq1) (.slice q2 16 cq2) (.slice q3 16 cq3) (.int .i64 la')
  have k5 := k4.setCell ⟨w.heap.size, 5, none⟩ (.int .i64 (wrap64 (now + 1))) (.inl rfl)
  have HQ := Lib.hid (show ∀ x, x = w.heap.size → XZ X w x from fun x e => .inr ⟨by omega, by omega⟩)
  have h5r := (HB3.out.r.setM (gs' := .slice q1 16 cq1) (ts' := .slice q2 16 cq2) (ks' := .slice q3 16 cq3) (la' := la')).setN (now' := wrap64 (now + 1))
  have h5z := has_keeps HB3.out.z k5 (by omega)
  go_upto_region 25 with fail
  obtain ⟨W5, hW5⟩ : ∃ W5, W5 = (st4 W3 w.heap.size (.slice q1 16 cq1) (.slice q2 16 cq2) (.slice q3 16 cq3) (.int .i64 la')).setCell ⟨w.heap.size, 5, none⟩ (.int .i64 (wrap64 (now + 1))) := ⟨_, rfl⟩
  rw [← hW5] at k5 h5r h5z
  unfold st4 at hW5
  rw [← hW5]
  have HK5 := Lib.hid k5
  have H5R := Lib.hid h5r
  have H5Z : Hid (HasR W5 (w.heap.size + 1 + 1) N0 N0 N0 0 N0 0) := Lib.hid h5z
  clear a0 a1 a2 a3 a4 a5 m0 m1 m2 m3 fr hne hne2 k4 k5 h5r h5z hW5
  generalize wrap64 (now + 1) = now5 at *
  obtain ⟨a0, a1, a2, a3, a4, a5⟩ := H5R.out.cells
  obtain ⟨y0, y1, y2, y3, y4, y5⟩ := H5Z.out.cells
  have fz := fun j => has_free H5Z.out j
  go_wp2_with fail
  refine bodyPost_ret (v := .tuple #[runv (.slice q1 16 cq1) (.slice q2 16 cq2) (.slice q3 16 cq3) la' (.slice pw L.length cw) now5, .bool true]) (by simp [results, Tryz.results12, go_sem, y0, y1, y2, y3, y4, y5]) rfl ?_
  have HP5 := (HP2.out.below HBX.out).keeps HK5.out (fun x hx e => by have := (HSL.out x hx).2; omega) HQ.out
  have HD5 := HD3.out.keeps (HK5.out.mono HQ.out)
  have HR5 := own_keep (own_under HR2.out HBX.out) HK5.out (fun g e e2 => by have := HIN.out.xw g (HIN.out.rx g e); omega)
  exact HIN.out.fin HPI.out HP5 HD5 HR5 (Nat.le_succ _) (fun x q => .inl q) (.inr ⟨by omega, by omega⟩) (fun g e => ⟨.inl (HIN.out.rx g e), HIN.out.rs g e, by have := HIN.out.xw g (HIN.out.rx g e); omega, .inl e⟩) (by have h1 := HS1.out; have h2 := HK2.out.size; have h3 := HBX.out.size; have h4 := HK5.out.size; omega) ((((Keeps.of_below HBW1.out).trans (HK2.out.mono (fun x q => .inl q))).trans (Keeps.of_below HBX.out)).far HK5.out (fun x e => by omega)) now5
set_option maxHeartbeats 8000000 in
set_option maxRecDepth 100000 in
theorem do_giv6 (S X : Nat → Prop) (B : Nat) (A : Tab) (T : Nat → Tk) (la now k i p l c a d : Int) (v gs ts ks wv : Value) (L : List Int) (w : World) (hin : Ro S X B w A T la v gs ts ks wv L) (hL : L.length ≤ 4000) (hk : kd k = 6) :
    Calls Tryz.prog 12 #[runv gs ts ks la wv now, v, av7 k i p l c a d] w (DoPost S X B w v wv L) := by
  have HIN := Lib.hid hin
  have hkw := kd_wrap k
  unfold kd at hk
  obtain ⟨bl, rfl, _⟩ := id hin.pl.ptr
  obtain ⟨p1, cp1, p2, cp2, p3, cp3, _, rfl, rfl, rfl, _⟩ := hin.dp.shape hin.pi.good
  obtain ⟨pw, cw, rfl⟩ := own_slice hin.row
  obtain ⟨hB, hbw, hsz⟩ := beg_new w (.slice p1 16 cp1) (.slice p2 16 cp2) (.slice p3 16 cp3) la (.slice pw L.length cw) now k i p l c a d
  obtain ⟨WA, hWA⟩ : ∃ WA, WA = begW w (.slice p1 16 cp1) (.slice p2 16 cp2) (.slice p3 16 cp3) la (.slice pw L.length cw) now k i p l c a d := ⟨_, rfl⟩
  rw [← hWA] at hB hbw hsz
  have HB := Lib.hid hB
  have HBW := Lib.hid hbw
  have HSZ := Lib.hid hsz
  have HRO := Lib.hid (show Ro S (XZ X w) B WA A T la (.pointer (some ⟨bl, 0, none⟩)) (.slice p1 16 cp1) (.slice p2 16 cp2) (.slice p3 16 cp3) (.slice pw L.length cw) L from hin.wide (fun x hx q => by rcases q with q | q; exact q; omega) (fun x q => .inl q) hbw (fun x q => by rcases q with q | q; have := hin.xw x q; omega; omega))
  have HSL := Lib.hid (fun x (hx : S x) => (show B ≤ x ∧ x < w.heap.size from hin.pl.lt x hx))
  have HPK := Lib.hid (fun W (hb : Below WA.heap.size WA W) => pick_any (.slice p1 16 cp1) (.slice p2 16 cp2) (.slice p3 16 cp3) (.slice pw L.length cw) la now i L W (Lst.of_own (own_under HRO.out.row hb) (ints_len _) (by omega) (fun _ _ _ q => q)))
  unfold begW at hWA
  have HW := Lib.hid hWA
  clear hWA hB hbw hsz hin
  generalize pkH L i = hh at *
  go_enter Tryz.func12, Tryz.ntmps12
  go_upto_region 1 with fail
  rw [← HW.out]
  obtain ⟨a0, a1, a2, a3, a4, a5⟩ := HB.out.r.cells
  obtain ⟨b0, b1, b2, b3, b4, b5, b6⟩ := HB.out.o.cells
  go_wp2_with fail
  refine (HPK.out WA (Below.refl _ _)).mono ?_
  rintro e w1 ⟨rfl, hb1⟩
  have HRO1 := Lib.hid (HRO.out.below hb1)
  have HB1 := Lib.hid (HB.out.below hb1)
  have HBW1 := Lib.hid (bnext HBW.out hb1)
  have HS1 := Lib.hid (show w.heap.size + 3 ≤ w1.heap.size from by have := HSZ.out; have := hb1.size; omega)
  clear a0 a1 a2 a3 a4 a5 b0 b1 b2 b3 b4 b5 b6 hb1
  obtain ⟨a0, a1, a2, a3, a4, a5⟩ := HB1.out.r.cells
  obtain ⟨b0, b1, b2, b3, b4, b5, b6⟩ := HB1.out.o.cells
  have HPG := Lib.hid (plgive S (XZ X w) B A T la HRO.out.pi.good w1 _ HRO1.out.pl HRO.out.sx HRO1.out.xw now)
  have HRG := Lib.hid (fun W (hd : DP (XZ X w) W A T (.slice p1 16 cp1) (.slice p2 16 cp2) (.slice p3 16 cp3)) (hx : ∀ x, XZ X w x → x < W.heap.size) => rgive14 (XZ X w) A T la HRO.out.pi.good _ _ _ W hd hx now)
  have HPI := Lib.hid (HRO.out.pi.give now)
  unfold PlPost at HPG
  unfold GiveR at HRG
  generalize gvT A T la now = T' at *
  generalize gvN A T la now = la' at *
  generalize gvH A T la now = gh at *
  generalize gvW A T la now = gm at *
  generalize gvL A T la now = gl at *
  generalize gvU A T la now = gu at *
  have hq1 : ((gh : Int) == gh) = true := by simp
  have hq2 : ((gm : Int) == gm) = true := by simp
  have hq3 : ((gl : Int) == gl) = true := by simp
  have hq4 : (gu == gu) = true := by simp
  go_wp2_with fail
  refine HPG.out.mono ?_
  rintro e w2 ⟨rfl, hp2, hk2⟩
  have hBk := HB1.out.keeps hk2 (fun x hx => (HSL.out x hx).2)
  have HB2 := Lib.hid hBk
  have HP2 := Lib.hid hp2
  have HK2 := Lib.hid hk2
  have HD2 := Lib.hid (HRO1.out.dp.keeps (hk2.mono HRO.out.sx))
  have HR2 := Lib.hid (own_keep HRO1.out.row hk2 HRO.out.rs)
  have HX2 := Lib.hid (show ∀ x, XZ X w x → x < w2.heap.size from fun x hx => Nat.lt_of_lt_of_le (HRO1.out.xw x hx) hk2.size)
  clear a0 a1 a2 a3 a4 a5 b0 b1 b2 b3 b4 b5 b6 hBk hp2 hk2 HPG
  obtain ⟨a0, a1, a2, a3, a4, a5⟩ := HB2.out.r.cells
  go_wp2_with fail
  refine (HRG.out w2 HD2.out HX2.out).mono ?_
  rintro e w3 ⟨gs2, ts2, ks2, rfl, hd3, hb3⟩
  obtain ⟨q1, cq1, q2, cq2, q3, cq3, _, rfl, rfl, rfl, _⟩ := hd3.shape HPI.out.good
  obtain ⟨W3, hW3⟩ : ∃ W3, W3 = w3.alloc (.cells #[.slice q1 16 cq1, .slice q2 16 cq2, .slice q3 16 cq3, .int .i64 la'] PT14) := ⟨_, rfl⟩
  have hb3a : Below w3.heap.size w3 W3 := by rw [hW3]; exact (Below.refl _ _).alloc (Nat.le_refl _) _
  have HM3 := Lib.hid (show HasP W3 w3.heap.size (.slice q1 16 cq1) (.slice q2 16 cq2) (.slice q3 16 cq3) la' from by rw [hW3]; exact hasP_new _ _ _ _ _)
  have HD3 := Lib.hid (hd3.below hb3a)
  have HB3 := Lib.hid (HB2.out.below (bnext hb3 hb3a))
  have HBX := Lib.hid (bnext hb3 hb3a)
  have HNE := Lib.hid (show w.heap.size + 3 ≤ w3.heap.size from by have h1 := HS1.out; have h2 := HK2.out.size; have h3 := hb3.size; omega)
  have HWX := Lib.hid hW3
  clear a0 a1 a2 a3 a4 a5 hd3 hb3 hb3a hW3
  go_upto_region 23 with fail
  rw [← HWX.out]
  generalize w3.heap.size = bm at *
  obtain ⟨a0, a1, a2, a3, a4, a5⟩ := HB3.out.r.cells
  obtain ⟨m0, m1, m2, m3⟩ := HM3.out.cells
  have fr := fun j => has_free HB3.out.r j
  have hne : ¬ bm = w.heap.size := by have := HNE.out; omega
  have hne2 : ¬ w.heap.size = bm := by have := HNE.out; omega
  have k4 := keeps_st4 (R := fun x => x = w.heap.size) (Keeps.refl _ W3) (.inl rfl) (.slice q1 16 cq1) (.slice q2 16 cq2) (.slice q3 16 cq3) (.int .i64 la')
  have k5 := k4.setCell ⟨w.heap.size, 5, none⟩ (.int .i64 (wrap64 (now + 1))) (.inl rfl)
  have HQ := Lib.hid (show ∀ x, x = w.heap.size → XZ X w x from fun x e => .inr ⟨by omega, by omega⟩)
  have h5r := (HB3.out.r.setM (gs' := .slice q1 16 cq1) (ts' := .slice q2 16 cq2) (ks' := .slice q3 16 cq3) (la' := la')).setN (now' := wrap64 (now + 1))
  have h5z := has_keeps HB3.out.z k5 (by omega)
  go_upto_region 25 with fail
  obtain ⟨W5, hW5⟩ : ∃ W5, W5 = (st4 W3 w.heap.size (.slice q1 16 cq1) (.slice q2 16 cq2) (.slice q3 16 cq3) (.int .i64 la')).setCell ⟨w.heap.size, 5, none⟩ (.int .i64 (wrap64 (now + 1))) := ⟨_, rfl⟩
  rw [← hW5] at k5 h5r h5z
  unfold st4 at hW5
  rw [← hW5]
  have HK5 := Lib.hid k5
  have H5R := Lib.hid h5r
  have H5Z : Hid (HasR W5 (w.heap.size + 1 + 1) N0 N0 N0 0 N0 0) := Lib.hid h5z
  clear a0 a1 a2 a3 a4 a5 m0 m1 m2 m3 fr hne hne2 k4 k5 h5r h5z hW5
  generalize wrap64 (now + 1) = now5 at *
  obtain ⟨a0, a1, a2, a3, a4, a5⟩ := H5R.out.cells
  obtain ⟨y0, y1, y2, y3, y4, y5⟩ := H5Z.out.cells
  have fz := fun j => has_free H5Z.out j
  go_wp2_with fail
  refine bodyPost_ret (v := .tuple #[runv (.slice q1 16 cq1) (.slice q2 16 cq2) (.slice q3 16 cq3) la' (.slice pw L.length cw) now5, .bool true]) (by simp [results, Tryz.results12, go_sem, y0, y1, y2, y3, y4, y5]) rfl ?_
  have HP5 := (HP2.out.below HBX.out).keeps HK5.out (fun x hx e => by have := (HSL.out x hx).2; omega) HQ.out
  have HD5 := HD3.out.keeps (HK5.out.mono HQ.out)
  have HR5 := own_keep (own_under HR2.out HBX.out) HK5.out (fun g e e2 => by have := HIN.out.xw g (HIN.out.rx g e); omega)
  exact HIN.out.fin HPI.out HP5 HD5 HR5 (Nat.le_succ _) (fun x q => .inl q) (.inr ⟨by omega, by omega⟩) (fun g e => ⟨.inl (HIN.out.rx g e), HIN.out.rs g e, by have := HIN.out.xw g (HIN.out.rx g e); omega, .inl e⟩) (by have h1 := HS1.out; have h2 := HK2.out.size; have h3 := HBX.out.size; have h4 := HK5.out.size; omega) ((((Keeps.of_below HBW1.out).trans (HK2.out.mono (fun x q => .inl q))).trans (Keeps.of_below HBX.out)).far HK5.out (fun x e => by omega)) now5
end Go.Proofs.YtedgchafligndaaGreat
