/- The law's own do: a Push; no condition but those that each row names. -/
import Derived.Test.YtedgchafligndaaGreatJB13
namespace Go.Proofs.YtedgchafligndaaGreat
open Go.RowKit Tsk

set_option maxHeartbeats 8000000 in
set_option maxRecDepth 100000 in
theorem do_psh2 (S X : Nat → Prop) (B : Nat) (A : Tab) (T : Nat → Tk) (la now k i p l c a d : Int) (v gs ts ks wv : Value) (L : List Int) (w : World) (hin : Ro S X B w A T la v gs ts ks wv L) (hL : L.length ≤ 4000) (hk : kd k = 2) :
    Calls Tryz.prog 12 #[runv gs ts ks la wv now, v, av7 k i p l c a d] w (DoPost S X B w v wv L) := by
  have HIN := Lib.hid hin
  have hkw := kd_wrap k
  unfold kd at hk
  obtain ⟨bl, rfl, _⟩ := id hin.pl.ptr
  obtain ⟨p1, cp1, p2, cp2, p3, cp3, _, rfl, rfl, rfl, _⟩ := hin.dp.shape hin.pi.good
  obtain ⟨pw, cw, rfl⟩ := own_slice hin.row
  obtain ⟨hB, hbw, hsz⟩ := beg_new w (.slice p1 16 cp1) (.slice p2 16 cp2) (.slice p3 16 cp3) la (.slice pw L.length cw) now k i p l c a d
  obtain ⟨WA, hWA⟩ : ∃ WA, WA = begW w (.slice p1 16 cp1) (.slice p2 16 cp2) (.slice p3 16 cp3) la (.slice pw L.length cw) now k i p l c a d := ⟨_, rfl⟩
  rw [← hWA] at hB hbw hsz
  have HB := Lib.hid hB
  have HBW := Lib.hid hbw
  have HSZ := Lib.hid hsz
  have HRO := Lib.hid (show Ro S (XZ X w) B WA A T la (.pointer (some ⟨bl, 0, none⟩)) (.slice p1 16 cp1) (.slice p2 16 cp2) (.slice p3 16 cp3) (.slice pw L.length cw) L from hin.wide (fun x hx q => by rcases q with q | q; exact q; omega) (fun x q => .inl q) hbw (fun x q => by rcases q with q | q; have := hin.xw x q; omega; omega))
  have HSL := Lib.hid (fun x (hx : S x) => (show B ≤ x ∧ x < w.heap.size from hin.pl.lt x hx))
  have HPK := Lib.hid (fun W (hb : Below WA.heap.size WA W) => pick_any (.slice p1 16 cp1) (.slice p2 16 cp2) (.slice p3 16 cp3) (.slice pw L.length cw) la now i L W (Lst.of_own (own_under HRO.out.row hb) (ints_len _) (by omega) (fun _ _ _ q => q)))
  unfold begW at hWA
  have HW := Lib.hid hWA
  clear hWA hB hbw hsz hin
  generalize pkH L i = hh at *
  go_enter Tryz.func12, Tryz.ntmps12
  go_upto_region 1 with fail
  rw [← HW.out]
  obtain ⟨a0, a1, a2, a3, a4, a5⟩ := HB.out.r.cells
  obtain ⟨b0, b1, b2, b3, b4, b5, b6⟩ := HB.out.o.cells
  go_wp2_with fail
  refine (HPK.out WA (Below.refl _ _)).mono ?_
  rintro e w1 ⟨rfl, hb1⟩
  have HRO1 := Lib.hid (HRO.out.below hb1)
  have HB1 := Lib.hid (HB.out.below hb1)
  have HBW1 := Lib.hid (bnext HBW.out hb1)
  have HS1 := Lib.hid (show w.heap.size + 3 ≤ w1.heap.size from by have := HSZ.out; have := hb1.size; omega)
  clear a0 a1 a2 a3 a4 a5 b0 b1 b2 b3 b4 b5 b6 hb1
  obtain ⟨a0, a1, a2, a3, a4, a5⟩ := HB1.out.r.cells
  obtain ⟨b0, b1, b2, b3, b4, b5, b6⟩ := HB1.out.o.cells
  have HRR := Lib.hid (rpush14 (XZ X w) A T la HRO1.out.pi.good _ _ _ w1 HRO1.out.dp HRO1.out.xw hh ⟨l, c, a, d⟩ now)
  unfold PoolN at HRR
  have HPI := Lib.hid (HRO.out.pi.push hh ⟨l, c, a, d⟩ now)
  have HPP := Lib.hid (fun W (hp : Pl S (XZ X w) B W A T la (.pointer (some ⟨bl, 0, none⟩))) (hx : ∀ x, XZ X w x → x < W.heap.size) => plpush S (XZ X w) B A T la HRO.out.pi.good W _ hp HRO.out.sx hx hh ⟨l, c, a, d⟩ now)
  unfold PlPost at HPP
  generalize pushT A T hh ⟨l, c, a, d⟩ now = T' at *
  generalize pushN A T hh ⟨l, c, a, d⟩ now = an at *
  go_wp2_with fail
  refine HRR.out.mono ?_
  rintro e w2 ⟨gs2, ts2, ks2, rfl, hd2, hb2⟩
  obtain ⟨q1, cq1, q2, cq2, q3, cq3, _, rfl, rfl, rfl, _⟩ := hd2.shape HPI.out.good
  obtain ⟨hp3, hd3, hr3, hx3, hk3⟩ := HRO1.out.laid HIN.out hb2 hd2 (.slice q1 16 cq1) (.slice q2 16 cq2) (.slice q3 16 cq3) (.int .i64 la)
  have hB3 := (HB1.out.below hb2).setM (gs' := .slice q1 16 cq1) (ts' := .slice q2 16 cq2) (ks' := .slice q3 16 cq3) (la' := la)
  have HB2 := Lib.hid (HB1.out.below hb2)
  clear a0 a1 a2 a3 a4 a5 b0 b1 b2 b3 b4 b5 b6 HRR hb2 hd2
  obtain ⟨a0, a1, a2, a3, a4, a5⟩ := HB2.out.r.cells
  have fr := fun j => has_free HB2.out.r j
  go_upto_region 16 with fail
  obtain ⟨W3, hW3⟩ : ∃ W3, W3 = st4 w2 w.heap.size (.slice q1 16 cq1) (.slice q2 16 cq2) (.slice q3 16 cq3) (.int .i64 la) := ⟨_, rfl⟩
  rw [← hW3] at hp3 hd3 hr3 hx3 hk3 hB3
  unfold st4 at hW3
  rw [← hW3]
  have HP3 := Lib.hid hp3
  have HD3 := Lib.hid hd3
  have HR3 := Lib.hid hr3
  have HK3 := Lib.hid hk3
  have HB3 := Lib.hid hB3
  have HCL := Lib.hid (HPP.out W3.drew (HP3.out.below below_drewOne) hx3)
  have HNU := Lib.hid (fun W => num_any an W)
  have hq2 : ((an : Int) == an) = true := by simp
  clear hW3 hp3 hd3 hr3 hx3 hk3 hB3 a0 a1 a2 a3 a4 a5 fr HB2 HPP
  obtain ⟨a0, a1, a2, a3, a4, a5⟩ := HB3.out.r.cells
  obtain ⟨b0, b1, b2, b3, b4, b5, b6⟩ := HB3.out.o.cells
  obtain ⟨y0, y1, y2, y3, y4, y5⟩ := HB3.out.z.cells
  have fz := fun j => has_free HB3.out.z j
  have HKB := Lib.hid (fun W (hk : Keeps S W3.drew W) => (show _ ∧ _ ∧ _ ∧ (∀ j, W.frozen? ⟨w.heap.size + 1 + 1, j, none⟩ = false) from by
    have h9 := (HB3.out.below below_drewOne).keeps hk (fun x hx => (HSL.out x hx).2)
    exact ⟨h9.r.cells, h9.o.cells, h9.z.cells, fun j => has_free h9.z j⟩))
  go_region_law (first
    | (go_simp; go_at_call 27; refine HCL.out.mono ?_; rintro e w4 ⟨rfl, hp4, hk4⟩; obtain ⟨⟨a0, a1, a2, a3, a4, a5⟩, ⟨b0, b1, b2, b3, b4, b5, b6⟩, ⟨y0, y1, y2, y3, y4, y5⟩, fz⟩ := HKB.out w4 hk4; have HP4 := Lib.hid hp4; have HK4 := Lib.hid hk4; clear hp4 hk4)
    | (go_simp; go_at_call 8; refine (HNU.out _).mono ?_; rintro e wn ⟨rfl, rfl⟩))
  all_goals
    go_wp2_with fail
    refine bodyPost_ret (v := .tuple #[runv (.slice q1 16 cq1) (.slice q2 16 cq2) (.slice q3 16 cq3) la (.slice pw L.length cw) now, .bool true]) (by simp [results, Tryz.results12, go_sem, y0, y1, y2, y3, y4, y5]) rfl ?_
    exact HIN.out.fin HPI.out HP4.out ((HD3.out.below below_drewOne).keeps (HK4.out.mono HRO.out.sx)) (own_keep (own_under HR3.out below_drewOne) HK4.out HRO.out.rs) (Nat.le_succ _) (fun x q => .inl q) (.inr ⟨by omega, by omega⟩) (fun g e => ⟨.inl (HIN.out.rx g e), HIN.out.rs g e, by have := HIN.out.xw g (HIN.out.rx g e); omega, .inl e⟩) (by have h1 := HS1.out; have h2 := HK3.out.size; have h3 := HK4.out.size; simp only [World.drew] at h3; omega) ((Keeps.of_below (below_keeps HBW1.out HK3.out (fun x e => by omega)).drew).trans (HK4.out.mono (fun x q => .inl q))) now
set_option maxHeartbeats 8000000 in
set_option maxRecDepth 100000 in
theorem do_psh3 (S X : Nat → Prop) (B : Nat) (A : Tab) (T : Nat → Tk) (la now k i p l c a d : Int) (v gs ts ks wv : Value) (L : List Int) (w : World) (hin : Ro S X B w A T la v gs ts ks wv L) (hL : L.length ≤ 4000) (hk : kd k = 3) :
    Calls Tryz.prog 12 #[runv gs ts ks la wv now, v, av7 k i p l c a d] w (DoPost S X B w v wv L) := by
  have HIN := Lib.hid hin
  have hkw := kd_wrap k
  unfold kd at hk
  obtain ⟨bl, rfl, _⟩ := id hin.pl.ptr
  obtain ⟨p1, cp1, p2, cp2, p3, cp3, _, rfl, rfl, rfl, _⟩ := hin.dp.shape hin.pi.good
  obtain ⟨pw, cw, rfl⟩ := own_slice hin.row
  obtain ⟨hB, hbw, hsz⟩ := beg_new w (.slice p1 16 cp1) (.slice p2 16 cp2) (.slice p3 16 cp3) la (.slice pw L.length cw) now k i p l c a d
  obtain ⟨WA, hWA⟩ : ∃ WA, WA = begW w (.slice p1 16 cp1) (.slice p2 16 cp2) (.slice p3 16 cp3) la (.slice pw L.length cw) now k i p l c a d := ⟨_, rfl⟩
  rw [← hWA] at hB hbw hsz
  have HB := Lib.hid hB
  have HBW := Lib.hid hbw
  have HSZ := Lib.hid hsz
  have HRO := Lib.hid (show Ro S (XZ X w) B WA A T la (.pointer (some ⟨bl, 0, none⟩)) (.slice p1 16 cp1) (.slice p2 16 cp2) (.slice p3 16 cp3) (.slice pw L.length cw) L from hin.wide (fun x hx q => by rcases q with q | q; exact q; omega) (fun x q => .inl q) hbw (fun x q => by rcases q with q | q; have := hin.xw x q; omega; omega))
  have HSL := Lib.hid (fun x (hx : S x) => (show B ≤ x ∧ x < w.heap.size from hin.pl.lt x hx))
  have HPK := Lib.hid (fun W (hb : Below WA.heap.size WA W) => pick_any (.slice p1 16 cp1) (.slice p2 16 cp2) (.slice p3 16 cp3) (.slice pw L.length cw) la now i L W (Lst.of_own (own_under HRO.out.row hb) (ints_len _) (by omega) (fun _ _ _ q => q)))
  unfold begW at hWA
  have HW := Lib.hid hWA
  clear hWA hB hbw hsz hin
  generalize pkH L i = hh at *
  go_enter Tryz.func12, Tryz.ntmps12
  go_upto_region 1 with fail
  rw [← HW.out]
  obtain ⟨a0, a1, a2, a3, a4, a5⟩ := HB.out.r.cells
  obtain ⟨b0, b1, b2, b3, b4, b5, b6⟩ := HB.out.o.cells
  go_wp2_with fail
  refine (HPK.out WA (Below.refl _ _)).mono ?_
  rintro e w1 ⟨rfl, hb1⟩
  have HRO1 := Lib.hid (HRO.out.below hb1)
  have HB1 := Lib.hid (HB.out.below hb1)
  have HBW1 := Lib.hid (bnext HBW.out hb1)
  have HS1 := Lib.hid (show w.heap.size + 3 ≤ w1.heap.size from by have := HSZ.out; have := hb1.size; omega)
  clear a0 a1 a2 a3 a4 a5 b0 b1 b2 b3 b4 b5 b6 hb1
  obtain ⟨a0, a1, a2, a3, a4, a5⟩ := HB1.out.r.cells
  obtain ⟨b0, b1, b2, b3, b4, b5, b6⟩ := HB1.out.o.cells
  have HRR := Lib.hid (rpush14 (XZ X w) A T la HRO1.out.pi.good _ _ _ w1 HRO1.out.dp HRO1.out.xw hh ⟨l, c, a, d⟩ now)
  unfold PoolN at HRR
  have HPI := Lib.hid (HRO.out.pi.push hh ⟨l, c, a, d⟩ now)
  have HPP := Lib.hid (fun W (hp : Pl S (XZ X w) B W A T la (.pointer (some ⟨bl, 0, none⟩))) (hx : ∀ x, XZ X w x → x < W.heap.size) => plpush S (XZ X w) B A T la HRO.out.pi.good W _ hp HRO.out.sx hx hh ⟨l, c, a, d⟩ now)
  unfold PlPost at HPP
  generalize pushT A T hh ⟨l, c, a, d⟩ now = T' at *
  generalize pushN A T hh ⟨l, c, a, d⟩ now = an at *
  go_wp2_with fail
  refine HRR.out.mono ?_
  rintro e w2 ⟨gs2, ts2, ks2, rfl, hd2, hb2⟩
  obtain ⟨q1, cq1, q2, cq2, q3, cq3, _, rfl, rfl, rfl, _⟩ := hd2.shape HPI.out.good
  obtain ⟨hp3, hd3, hr3, hx3, hk3⟩ := HRO1.out.laid HIN.out hb2 hd2 (.slice q1 16 cq1) (.slice q2 16 cq2) (.slice q3 16 cq3) (.int .i64 la)
  have hB3 := (HB1.out.below hb2).setM (gs' := .slice q1 16 cq1) (ts' := .slice q2 16 cq2) (ks' := .slice q3 16 cq3) (la' := la)
  have HB2 := Lib.hid (HB1.out.below hb2)
  clear a0 a1 a2 a3 a4 a5 b0 b1 b2 b3 b4 b5 b6 HRR hb2 hd2
  obtain ⟨a0, a1, a2, a3, a4, a5⟩ := HB2.out.r.cells
  have fr := fun j => has_free HB2.out.r j
  go_upto_region 16 with fail
  obtain ⟨W3, hW3⟩ : ∃ W3, W3 = st4 w2 w.heap.size (.slice q1 16 cq1) (.slice q2 16 cq2) (.slice q3 16 cq3) (.int .i64 la) := ⟨_, rfl⟩
  rw [← hW3] at hp3 hd3 hr3 hx3 hk3 hB3
  unfold st4 at hW3
  rw [← hW3]
  have HP3 := Lib.hid hp3
  have HD3 := Lib.hid hd3
  have HR3 := Lib.hid hr3
  have HK3 := Lib.hid hk3
  have HB3 := Lib.hid hB3
  have HCL := Lib.hid (HPP.out W3.drew (HP3.out.below below_drewOne) hx3)
  have HNU := Lib.hid (fun W => num_any an W)
  have hq2 : ((an : Int) == an) = true := by simp
  clear hW3 hp3 hd3 hr3 hx3 hk3 hB3 a0 a1 a2 a3 a4 a5 fr HB2 HPP
  obtain ⟨a0, a1, a2, a3, a4, a5⟩ := HB3.out.r.cells
  obtain ⟨b0, b1, b2, b3, b4, b5, b6⟩ := HB3.out.o.cells
  obtain ⟨y0, y1, y2, y3, y4, y5⟩ := HB3.out.z.cells
  have fz := fun j => has_free HB3.out.z j
  have HKB := Lib.hid (fun W (hk : Keeps S W3.drew W) => (show _ ∧ _ ∧ _ ∧ (∀ j, W.frozen? ⟨w.heap.size + 1 + 1, j, none⟩ = false) from by
    have h9 := (HB3.out.below below_drewOne).keeps hk (fun x hx => (HSL.out x hx).2)
    exact ⟨h9.r.cells, h9.o.cells, h9.z.cells, fun j => has_free h9.z j⟩))
  go_region_law (first
    | (go_simp; go_at_call 27; refine HCL.out.mono ?_; rintro e w4 ⟨rfl, hp4, hk4⟩; obtain ⟨⟨a0, a1, a2, a3, a4, a5⟩, ⟨b0, b1, b2, b3, b4, b5, b6⟩, ⟨y0, y1, y2, y3, y4, y5⟩, fz⟩ := HKB.out w4 hk4; have HP4 := Lib.hid hp4; have HK4 := Lib.hid hk4; clear hp4 hk4)
    | (go_simp; go_at_call 8; refine (HNU.out _).mono ?_; rintro e wn ⟨rfl, rfl⟩))
  all_goals
    go_wp2_with fail
    refine bodyPost_ret (v := .tuple #[runv (.slice q1 16 cq1) (.slice q2 16 cq2) (.slice q3 16 cq3) la (.slice pw L.length cw) now, .bool true]) (by simp [results, Tryz.results12, go_sem, y0, y1, y2, y3, y4, y5]) rfl ?_
    exact HIN.out.fin HPI.out HP4.out ((HD3.out.below below_drewOne).keeps (HK4.out.mono HRO.out.sx)) (own_keep (own_under HR3.out below_drewOne) HK4.out HRO.out.rs) (Nat.le_succ _) (fun x q => .inl q) (.inr ⟨by omega, by omega⟩) (fun g e => ⟨.inl (HIN.out.rx g e), HIN.out.rs g e, by have := HIN.out.xw g (HIN.out.rx g e); omega, .inl e⟩) (by have h1 := HS1.out; have h2 := HK3.out.size; have h3 := HK4.out.size; simp only [World.drew] at h3; omega) ((Keeps.of_below (below_keeps HBW1.out HK3.out (fun x e => by omega)).drew).trans (HK4.out.mono (fun x q => .inl q))) now
end Go.Proofs.YtedgchafligndaaGreat
