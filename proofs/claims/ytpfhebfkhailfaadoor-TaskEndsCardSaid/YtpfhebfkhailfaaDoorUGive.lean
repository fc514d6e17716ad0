/- The program's task: what a tick makes of a task at which a job waits; no condition but those that each row names. -/
import Derived.Test.YtpfhebfkhailfaaDoorUPush
namespace Go.Proofs.YtpfhebfkhailfaaDoor
open Go.RowKit Go.Shelf Tsk

/-- The blocks that the program's give works on. -/
structure GS (w : World) (p : Int) (sv : Value) (k : Ac) (wx : World) : Prop where
  t : HasT wx w.heap.size p sv k
  r : HasT wx (w.heap.size + 1) 0 (.slice none 0 0) kZ
  below : Below w.heap.size w wx
  sz : w.heap.size + 2 ≤ wx.heap.size
theorem GS.turn {w wx w' : World} {p : Int} {sv : Value} {k : Ac} (h : GS w p sv k wx) (hb : Below wx.heap.size wx w') : GS w p sv k w' := ⟨h.t.below hb, h.r.below hb, bnext h.below hb, Nat.le_trans h.sz hb.size⟩
theorem GS.ran (w : World) (p : Int) (sv : Value) (k : Ac) : GS w p sv k ((w.alloc (.cells #[.int .i64 p, sv, .int .i64 k.g, .int .i64 k.o, .int .i64 k.n, .int .i64 k.d, .int .i64 k.c, .int .i64 k.t] KT)).alloc (.cells #[.int .i64 0, .slice none 0 0, .int .i64 0, .int .i64 0, .int .i64 0, .int .i64 0, .int .i64 0, .int .i64 0] KT)) :=
  ⟨has_old (has_new w _ _ rfl) _, has_new _ _ _ (by simp), ((Below.refl _ _).alloc (Nat.le_refl _) _).alloc (by simp) _, by simp⟩
theorem arr6 (u0 u1 u2 u3 u4 u5 u6 u7 v2 v3 v4 v5 v6 v7 : Value) : (((((#[u0, u1, u2, u3, u4, u5, u6, u7].setIfInBounds 2 v2).setIfInBounds 3 v3).setIfInBounds 4 v4).setIfInBounds 5 v5).setIfInBounds 6 v6).setIfInBounds 7 v7 = #[u0, u1, v2, v3, v4, v5, v6, v7] := by
  rw [← Array.toList_inj]
  simp only [Array.toList_setIfInBounds]
  rfl
theorem HasT.setK {W : World} {g : Nat} {p : Int} {s : Value} {k k' : Ac} (h : HasT W g p s k) :
    HasT ((((((W.setCell ⟨g, 2, none⟩ (.int .i64 k'.g)).setCell ⟨g, 3, none⟩ (.int .i64 k'.o)).setCell ⟨g, 4, none⟩ (.int .i64 k'.n)).setCell ⟨g, 5, none⟩ (.int .i64 k'.d)).setCell ⟨g, 6, none⟩ (.int .i64 k'.c)).setCell ⟨g, 7, none⟩ (.int .i64 k'.t)) g p s k' := by
  unfold HasT at h
  have a2 := has_set h 2 (.int .i64 k'.g)
  have a3 := has_set a2 3 (.int .i64 k'.o)
  have a4 := has_set a3 4 (.int .i64 k'.n)
  have a5 := has_set a4 5 (.int .i64 k'.d)
  have a6 := has_set a5 6 (.int .i64 k'.c)
  have a7 := has_set a6 7 (.int .i64 k'.t)
  clear h a2 a3 a4 a5 a6
  rw [arr6] at a7
  exact a7
theorem GS.acc {w wx : World} {p : Int} {sv : Value} {k : Ac} (h : GS w p sv k wx) (k' : Ac) :
    GS w p sv k' ((((((wx.setCell ⟨w.heap.size, 2, none⟩ (.int .i64 k'.g)).setCell ⟨w.heap.size, 3, none⟩ (.int .i64 k'.o)).setCell ⟨w.heap.size, 4, none⟩ (.int .i64 k'.n)).setCell ⟨w.heap.size, 5, none⟩ (.int .i64 k'.d)).setCell ⟨w.heap.size, 6, none⟩ (.int .i64 k'.c)).setCell ⟨w.heap.size, 7, none⟩ (.int .i64 k'.t)) := by
  refine ⟨HasT.setK h.t, ?_, ?_, ?_⟩
  · iterate 6 refine HasT.other ?_ _ _ (by show w.heap.size ≠ w.heap.size + 1; omega)
    exact h.r
  · iterate 6 refine below_low ?_ _ _ (Nat.le_refl _)
    exact h.below
  · have := h.sz
    simpa [World.setCell] using this
theorem QJ.holdsK {w wr w' : World} {b n : Nat} {s : Value} {f : Nat → Jb} {z : Int} (h : QJ w b s n f z wr) (hk : Keeps (fun x => x < w.heap.size) wr w') : Holds_J w' (.pointer (some ⟨b, 0, none⟩)) (fL f n) := by
  obtain ⟨⟨A, h1, h2, _, _, h4⟩, h3⟩ := h
  exact .inr ⟨_, b, s, A, rfl, h1.keeps hk (by have := h1.hb; omega) (fun g e => by have := (h1.own.lt g e).1; omega), h2, h4⟩
set_option maxHeartbeats 1000000 in
set_option maxRecDepth 100000 in
theorem pgive_on (p : Int) (s : Value) (n : Nat) (f : Nat → Jb) (k : Ac) (now : Int) (w : World) (h : Jobs w s n f) (hv : okT p n f k) (_ : 0 ≤ now ∧ now < 1073741824) (h0 : 0 < n) (hg : k.g < 1073741824) (hl : (f 0).l ≠ 1) (hc : (f 0).c ≠ 1) :
    Calls Tryd.prog 50 #[tV p s k, .int .i64 (now + 1)] w fun e w' => ∃ x, e = .returned (.tuple #[x, .int .i64 0, .int .i64 0]) ∧ TaskO w p n (upd f 0 (runJ (f 0))) ⟨k.g + 1, k.o + 1, k.n, k.d, k.c, k.t⟩ x w' := by
  have hok := hv.2.2.1 0 h0
  have hok2 := hv.2.2.2
  have HOK := Lib.hid hok
  have HJ := Lib.hid h
  have HQ := Lib.hid (fun w (h : Jobs w s n f) => pqueue s n f w h hv.2.1)
  have HLf := Lib.hid (fun w => pleft (f 0) w hok)
  have HWk := Lib.hid (fun w => pworked (f 0) w hok)
  obtain ⟨q, cap, rfl, _, _⟩ := h
  obtain ⟨kg, ko, kn, kd, kc, kt⟩ := k
  dsimp only at hg
  obtain ⟨⟨⟨g0, g1⟩, hog, hng⟩, ⟨k1, k2⟩, ⟨k3, k4⟩, ⟨k5, k6⟩⟩ := (okA_mk _ _ _ _ _ _).1 hok2
  subst hog hng
  have v1 : IntKind.i64.wrap (ko + 1) = ko + 1 := IntWalk.i64_in _ (by omega)
  obtain ⟨WA, hWA⟩ : ∃ WA, WA = (w.alloc (.cells #[.int .i64 p, .slice q n cap, .int .i64 (ko + 1), .int .i64 (ko + 1), .int .i64 0, .int .i64 kd, .int .i64 kc, .int .i64 kt] KT)).alloc (.cells #[.int .i64 0, .slice none 0 0, .int .i64 0, .int .i64 0, .int .i64 0, .int .i64 0, .int .i64 0, .int .i64 0] KT) := ⟨_, rfl⟩
  have HS := Lib.hid (show GS w p (.slice q n cap) ⟨ko + 1, ko + 1, 0, kd, kc, kt⟩ WA from by rw [hWA]; exact GS.ran w p (.slice q n cap) ⟨ko + 1, ko + 1, 0, kd, kc, kt⟩)
  have HW := Lib.hid hWA
  have hn8 := hv.2.1
  clear hv hok hok2 hWA
  have hneed : 1 < need (f 0) := by
    obtain ⟨⟨l1, l2⟩, ⟨c1, c2⟩, _⟩ := HOK.out
    unfold need
    split <;> omega
  have HF := Lib.hid (show f = f from rfl)
  obtain ⟨jb, hjb⟩ : ∃ jb, jb = f 0 := ⟨_, rfl⟩
  rw [← hjb] at HLf HWk HOK hneed hl hc
  rw [← hjb]
  have HJB := Lib.hid hjb
  clear hjb
  obtain ⟨jl, jc, ja, jd⟩ := jb
  dsimp only at hl hc
  obtain ⟨z, hz⟩ : ∃ z, z = need ⟨jl, jc, ja, jd⟩ := ⟨_, rfl⟩
  rw [← hz] at HLf hneed
  clear hz
  obtain ⟨x, hx⟩ : ∃ x, x = runJ ⟨jl, jc, ja, jd⟩ := ⟨_, rfl⟩
  rw [← hx] at HWk
  rw [← hx]
  clear hx
  obtain ⟨xl, xc, xa, xd⟩ := x
  go_enter Tryd.func50, Tryd.ntmps50
  go_wp2_with fail
  rw [← HW.out]
  refine (HQ.out _ (HJ.out.below HS.out.below)).mono ?_
  rintro e w1 ⟨b, s1, rfl, hq1⟩
  have H1 := Lib.hid (HS.out.turn hq1.below)
  have hhd := qhead _ _ _ _ _ _ _ hq1 h0
  rw [← HJB.out] at hhd
  have HH := Lib.hid hhd
  have HQ1 := Lib.hid hq1
  clear hq1 hhd
  go_wp2_with fail
  refine HH.out.mono ?_
  rintro e w2 ⟨rfl, hb2⟩
  obtain ⟨W3, hW3⟩ : ∃ W3, W3 = w2.alloc (.cells #[.int .i64 jl, .int .i64 jc, .int .i64 ja, .int .i64 jd] JT) := ⟨_, rfl⟩
  have H3 := Lib.hid (show GS w p (.slice q n cap) ⟨ko + 1, ko + 1, 0, kd, kc, kt⟩ W3 ∧ HasJ0 W3 w2.heap.size ⟨jl, jc, ja, jd⟩ ∧ QJ WA b s1 n f n W3 from by
    have hb3 : Below w1.heap.size w1 W3 := by rw [hW3]; exact hb2.alloc hb2.size _
    exact ⟨H1.out.turn hb3, by rw [hW3]; exact has_new _ _ _ rfl, HQ1.out.turn hb3⟩)
  have hlt := (HQ1.out.turn hb2).lt
  have hbl := hlt.1
  have HG := Lib.hid hlt.2
  have HW3 := Lib.hid hW3
  clear hW3 hb2 hlt
  go_wp2_with fail
  rw [← HW3.out]
  refine (HLf.out _).mono ?_
  rintro e w4 ⟨rfl, hb4⟩
  have H4 := Lib.hid (show GS w p (.slice q n cap) ⟨ko + 1, ko + 1, 0, kd, kc, kt⟩ w4 ∧ HasJ0 w4 w2.heap.size ⟨jl, jc, ja, jd⟩ ∧ QJ WA b s1 n f n w4 from ⟨H3.out.1.turn hb4, (hb4.block _ (has_lt H3.out.2.1)).trans H3.out.2.1, H3.out.2.2.turn hb4⟩)
  obtain ⟨j0, j1, j2, j3⟩ := H4.out.2.1.cells
  clear hb4
  go_wp2_with fail
  refine (HWk.out _).mono ?_
  rintro e w5 ⟨rfl, hb5⟩
  have HP := Lib.hid (qput _ _ _ _ _ _ _ (H4.out.2.2.turn hb5) ⟨xl, xc, xa, xd⟩ h0 (by omega))
  clear hb5 j0 j1 j2 j3
  go_wp2_with fail
  refine HP.out.mono ?_
  rintro e w6 ⟨rfl, hq6, hk6⟩
  have H6 := Lib.hid (HS.out.turn hq6.below)
  have HL6 := Lib.hid (qlist _ _ _ _ _ _ _ hq6)
  obtain ⟨x0, x1, x2, x3, x4, x5, x6, x7⟩ := H6.out.t.cells
  clear hq6 hk6
  go_wp2_with fail
  refine HL6.out.mono ?_
  rintro e w7 ⟨p7, c7, rfl, ho7, hb7⟩
  have H7 := Lib.hid (H6.out.turn hb7)
  have HO7 := Lib.hid ho7
  have hs6 := H6.out.sz
  obtain ⟨y0, y1, y2, y3, y4, y5, y6, y7⟩ := H7.out.r.cells
  have yf := fun j => has_free H7.out.r j
  clear x0 x1 x2 x3 x4 x5 x6 x7
  obtain ⟨x0, x1, x2, x3, x4, x5, x6, x7⟩ := H7.out.t.cells
  have xf := fun j => has_free H7.out.t j
  clear hb7 ho7
  go_wp2_with fail
  refine bodyPost_ret (v := .tuple #[tV p (.slice p7 (n) c7) ⟨ko + 1, ko + 1, 0, kd, kc, kt⟩, .int .i64 0, .int .i64 0]) (by simp [results, Tryd.results50, go_sem, y0, y1, y2, y3, y4, y5, y6, y7]) rfl ⟨_, rfl, p7, c7, rfl, ?_, ?_⟩
  · refine own_base2 (B := w6.heap.size) ?_ (by omega)
    repeat (first | (with_reducible exact HO7.out) | refine own_low ?_ _ _ (by first | (simp; done) | (simp; omega)))
  · repeat (first | (with_reducible exact H7.out.below) | refine below_low ?_ _ _ (by first | (simp; done) | (simp; omega)))
set_option maxHeartbeats 1000000 in
set_option maxRecDepth 100000 in
theorem pgive_done (p : Int) (s : Value) (n : Nat) (f : Nat → Jb) (k : Ac) (now : Int) (w : World) (h : Jobs w s n f) (hv : okT p n f k) (hn : 0 ≤ now ∧ now < 1073741824) (h0 : 0 < n) (hg : k.g < 1073741824) (hl : (f 0).l = 1) :
    Calls Tryd.prog 50 #[tV p s k, .int .i64 (now + 1)] w fun e w' => ∃ x, e = .returned (.tuple #[x, .int .i64 1, .int .i64 (lateS (f 0) (now + 1))]) ∧ TaskO w p (n - 1) (fun i => f (i + 1)) (endedK ⟨k.g + 1, k.o + 1, k.n, k.d, k.c, k.t⟩ 1 (lateS (f 0) (now + 1))) x w' := by
  have hok := hv.2.2.1 0 h0
  have hok2 := hv.2.2.2
  have HOK := Lib.hid hok
  have HJ := Lib.hid h
  have HQ := Lib.hid (fun w (h : Jobs w s n f) => pqueue s n f w h hv.2.1)
  have HLf := Lib.hid (fun w => pleft (f 0) w hok)
  have HWk := Lib.hid (fun w => pworked (f 0) w hok)
  obtain ⟨q, cap, rfl, _, _⟩ := h
  obtain ⟨kg, ko, kn, kd, kc, kt⟩ := k
  dsimp only at hg
  obtain ⟨⟨⟨g0, g1⟩, hog, hng⟩, ⟨k1, k2⟩, ⟨k3, k4⟩, ⟨k5, k6⟩⟩ := (okA_mk _ _ _ _ _ _).1 hok2
  subst hog hng
  have v1 : IntKind.i64.wrap (ko + 1) = ko + 1 := IntWalk.i64_in _ (by omega)
  obtain ⟨WA, hWA⟩ : ∃ WA, WA = (w.alloc (.cells #[.int .i64 p, .slice q n cap, .int .i64 (ko + 1), .int .i64 (ko + 1), .int .i64 0, .int .i64 kd, .int .i64 kc, .int .i64 kt] KT)).alloc (.cells #[.int .i64 0, .slice none 0 0, .int .i64 0, .int .i64 0, .int .i64 0, .int .i64 0, .int .i64 0, .int .i64 0] KT) := ⟨_, rfl⟩
  have HS := Lib.hid (show GS w p (.slice q n cap) ⟨ko + 1, ko + 1, 0, kd, kc, kt⟩ WA from by rw [hWA]; exact GS.ran w p (.slice q n cap) ⟨ko + 1, ko + 1, 0, kd, kc, kt⟩)
  have HW := Lib.hid hWA
  have hn8 := hv.2.1
  clear hv hok hok2 hWA
  have hneed : need (f 0) ≤ 1 := by
    obtain ⟨⟨l1, l2⟩, ⟨c1, c2⟩, _⟩ := HOK.out
    unfold need
    split <;> omega
  have HLt := Lib.hid (fun w => plate (f 0) (now + 1) w HOK.out (by omega) (by omega))
  have HF := Lib.hid (show f = f from rfl)
  obtain ⟨jb, hjb⟩ : ∃ jb, jb = f 0 := ⟨_, rfl⟩
  rw [← hjb] at HLf HWk HOK hneed HLt hl
  rw [← hjb]
  have HJB := Lib.hid hjb
  clear hjb
  obtain ⟨jl, jc, ja, jd⟩ := jb
  dsimp only at hl
  obtain ⟨z, hz⟩ : ∃ z, z = need ⟨jl, jc, ja, jd⟩ := ⟨_, rfl⟩
  rw [← hz] at HLf hneed
  clear hz HWk
  obtain ⟨ll, hll⟩ : ∃ ll, ll = lateS ⟨jl, jc, ja, jd⟩ (now + 1) := ⟨_, rfl⟩
  rw [← hll] at HLt
  rw [← hll]
  clear hll
  have hz1 : decide (1 < z) = false := decide_eq_false (by omega)
  have HE := Lib.hid (fun w => pended ⟨ko + 1, ko + 1, 0, kd, kc, kt⟩ 1 ll w ⟨by dsimp only; omega, by dsimp only; omega⟩ ⟨by dsimp only; omega, by dsimp only; omega⟩ ⟨by dsimp only; omega, by dsimp only; omega⟩)
  dsimp only
  obtain ⟨E, hE⟩ : ∃ E, E = endedK ⟨ko + 1, ko + 1, 0, kd, kc, kt⟩ 1 ll := ⟨_, rfl⟩
  rw [← hE] at HE
  rw [← hE]
  clear hE
  obtain ⟨eg, eo, en, ed, ec, et⟩ := E
  have hl2 : (jl == 1) = true := by simpa using hl
  clear hl
  go_enter Tryd.func50, Tryd.ntmps50
  go_wp2_with fail
  rw [← HW.out]
  refine (HQ.out _ (HJ.out.below HS.out.below)).mono ?_
  rintro e w1 ⟨b, s1, rfl, hq1⟩
  have H1 := Lib.hid (HS.out.turn hq1.below)
  have hhd := qhead _ _ _ _ _ _ _ hq1 h0
  rw [← HJB.out] at hhd
  have HH := Lib.hid hhd
  have HQ1 := Lib.hid hq1
  clear hq1 hhd
  go_wp2_with fail
  refine HH.out.mono ?_
  rintro e w2 ⟨rfl, hb2⟩
  obtain ⟨W3, hW3⟩ : ∃ W3, W3 = w2.alloc (.cells #[.int .i64 jl, .int .i64 jc, .int .i64 ja, .int .i64 jd] JT) := ⟨_, rfl⟩
  have H3 := Lib.hid (show GS w p (.slice q n cap) ⟨ko + 1, ko + 1, 0, kd, kc, kt⟩ W3 ∧ HasJ0 W3 w2.heap.size ⟨jl, jc, ja, jd⟩ ∧ QJ WA b s1 n f n W3 from by
    have hb3 : Below w1.heap.size w1 W3 := by rw [hW3]; exact hb2.alloc hb2.size _
    exact ⟨H1.out.turn hb3, by rw [hW3]; exact has_new _ _ _ rfl, HQ1.out.turn hb3⟩)
  have hlt := (HQ1.out.turn hb2).lt
  have hbl := hlt.1
  have HG := Lib.hid hlt.2
  have HW3 := Lib.hid hW3
  clear hW3 hb2 hlt
  go_wp2_with fail
  rw [← HW3.out]
  refine (HLf.out _).mono ?_
  rintro e w4 ⟨rfl, hb4⟩
  have H4 := Lib.hid (show GS w p (.slice q n cap) ⟨ko + 1, ko + 1, 0, kd, kc, kt⟩ w4 ∧ HasJ0 w4 w2.heap.size ⟨jl, jc, ja, jd⟩ ∧ QJ WA b s1 n f n w4 from ⟨H3.out.1.turn hb4, (hb4.block _ (has_lt H3.out.2.1)).trans H3.out.2.1, H3.out.2.2.turn hb4⟩)
  obtain ⟨j0, j1, j2, j3⟩ := H4.out.2.1.cells
  clear hb4
  go_wp2_with fail
  have HP := Lib.hid (qpop _ _ _ _ _ _ _ H4.out.2.2 h0)
  rw [← HJB.out] at HP
  refine HP.out.mono ?_
  rintro e w5 ⟨rfl, s5, hq5, hk5⟩
  have H5 := Lib.hid (HS.out.turn hq5.below)
  have hj5 := HasJ0.keeps H4.out.2.1 hk5 (by rintro (e | e); omega; have := HG.out _ e; omega)
  obtain ⟨i0, i1, i2, i3⟩ := hj5.cells
  have HQ5 := Lib.hid hq5
  clear hq5 hk5 hj5 j0 j1 j2 j3
  go_wp2_with fail
  refine (HLt.out _).mono ?_
  rintro e w6 ⟨rfl, hb6⟩
  have H6 := Lib.hid (H5.out.turn hb6)
  have HQ6 := Lib.hid (HQ5.out.turn hb6)
  obtain ⟨x0, x1, x2, x3, x4, x5, x6, x7⟩ := H6.out.t.cells
  clear hb6 i0 i1 i2 i3
  go_wp2_with fail
  refine (HE.out _).mono ?_
  rintro e w8 ⟨rfl, hb8⟩
  have H8 := Lib.hid (H6.out.turn hb8)
  have HQ8 := Lib.hid (HQ6.out.turn hb8)
  clear x0 x1 x2 x3 x4 x5 x6 x7 hb8
  obtain ⟨x0, x1, x2, x3, x4, x5, x6, x7⟩ := H8.out.t.cells
  have xf8 := fun j => has_free H8.out.t j
  have hws : w.heap.size < WA.heap.size := by have := HS.out.sz; omega
  go_wp2_with fail
  obtain ⟨W9, hW9⟩ : ∃ W9, W9 = ((((((w8.setCell ⟨w.heap.size, 2, none⟩ (.int .i64 eg)).setCell ⟨w.heap.size, 3, none⟩ (.int .i64 eo)).setCell ⟨w.heap.size, 4, none⟩ (.int .i64 en)).setCell ⟨w.heap.size, 5, none⟩ (.int .i64 ed)).setCell ⟨w.heap.size, 6, none⟩ (.int .i64 ec)).setCell ⟨w.heap.size, 7, none⟩ (.int .i64 et)) := ⟨_, rfl⟩
  have H9 := Lib.hid (show GS w p (.slice q n cap) ⟨eg, eo, en, ed, ec, et⟩ W9 from by rw [hW9]; exact H8.out.acc ⟨eg, eo, en, ed, ec, et⟩)
  have HL9 := Lib.hid (jlist_any W9 _ (n - 1) (fun i => f (i + 1)) (HQ8.out.holdsK (by
    rw [hW9]
    iterate 6 refine Keeps.setCell ?_ _ _ (.inl hws)
    exact Keeps.refl _ _)))
  rw [← hW9]
  clear hW9 x0 x1 x2 x3 x4 x5 x6 x7 xf8
  refine HL9.out.mono ?_
  rintro e w7 ⟨p7, c7, rfl, ho7, hb7⟩
  have H7 := Lib.hid (H9.out.turn hb7)
  have HO7 := Lib.hid ho7
  have hs6 := H9.out.sz
  obtain ⟨y0, y1, y2, y3, y4, y5, y6, y7⟩ := H7.out.r.cells
  have yf := fun j => has_free H7.out.r j
  obtain ⟨x0, x1, x2, x3, x4, x5, x6, x7⟩ := H7.out.t.cells
  have xf := fun j => has_free H7.out.t j
  clear hb7 ho7
  go_wp2_with fail
  refine bodyPost_ret (v := .tuple #[tV p (.slice p7 (n - 1) c7) ⟨eg, eo, en, ed, ec, et⟩, .int .i64 1, .int .i64 ll]) (by simp [results, Tryd.results50, go_sem, y0, y1, y2, y3, y4, y5, y6, y7]) rfl ⟨_, rfl, p7, c7, rfl, ?_, ?_⟩
  · refine own_base2 (B := W9.heap.size) ?_ (by omega)
    repeat (first | (with_reducible exact HO7.out) | refine own_low ?_ _ _ (by first | (simp; done) | (simp; omega)))
  · repeat (first | (with_reducible exact H7.out.below) | refine below_low ?_ _ _ (by first | (simp; done) | (simp; omega)))
set_option maxHeartbeats 1000000 in
set_option maxRecDepth 100000 in
theorem pgive_cut (p : Int) (s : Value) (n : Nat) (f : Nat → Jb) (k : Ac) (now : Int) (w : World) (h : Jobs w s n f) (hv : okT p n f k) (hn : 0 ≤ now ∧ now < 1073741824) (h0 : 0 < n) (hg : k.g < 1073741824) (hl : (f 0).l ≠ 1) (hc : (f 0).c = 1) :
    Calls Tryd.prog 50 #[tV p s k, .int .i64 (now + 1)] w fun e w' => ∃ x, e = .returned (.tuple #[x, .int .i64 2, .int .i64 (lateS (f 0) (now + 1))]) ∧ TaskO w p (n - 1) (fun i => f (i + 1)) (endedK ⟨k.g + 1, k.o + 1, k.n, k.d, k.c, k.t⟩ 2 (lateS (f 0) (now + 1))) x w' := by
  have hok := hv.2.2.1 0 h0
  have hok2 := hv.2.2.2
  have HOK := Lib.hid hok
  have HJ := Lib.hid h
  have HQ := Lib.hid (fun w (h : Jobs w s n f) => pqueue s n f w h hv.2.1)
  have HLf := Lib.hid (fun w => pleft (f 0) w hok)
  have HWk := Lib.hid (fun w => pworked (f 0) w hok)
  obtain ⟨q, cap, rfl, _, _⟩ := h
  obtain ⟨kg, ko, kn, kd, kc, kt⟩ := k
  dsimp only at hg
  obtain ⟨⟨⟨g0, g1⟩, hog, hng⟩, ⟨k1, k2⟩, ⟨k3, k4⟩, ⟨k5, k6⟩⟩ := (okA_mk _ _ _ _ _ _).1 hok2
  subst hog hng
  have v1 : IntKind.i64.wrap (ko + 1) = ko + 1 := IntWalk.i64_in _ (by omega)
  obtain ⟨WA, hWA⟩ : ∃ WA, WA = (w.alloc (.cells #[.int .i64 p, .slice q n cap, .int .i64 (ko + 1), .int .i64 (ko + 1), .int .i64 0, .int .i64 kd, .int .i64 kc, .int .i64 kt] KT)).alloc (.cells #[.int .i64 0, .slice none 0 0, .int .i64 0, .int .i64 0, .int .i64 0, .int .i64 0, .int .i64 0, .int .i64 0] KT) := ⟨_, rfl⟩
  have HS := Lib.hid (show GS w p (.slice q n cap) ⟨ko + 1, ko + 1, 0, kd, kc, kt⟩ WA from by rw [hWA]; exact GS.ran w p (.slice q n cap) ⟨ko + 1, ko + 1, 0, kd, kc, kt⟩)
  have HW := Lib.hid hWA
  have hn8 := hv.2.1
  clear hv hok hok2 hWA
  have hneed : need (f 0) ≤ 1 := by
    obtain ⟨⟨l1, l2⟩, ⟨c1, c2⟩, _⟩ := HOK.out
    unfold need
    split <;> omega
  have HLt := Lib.hid (fun w => plate (f 0) (now + 1) w HOK.out (by omega) (by omega))
  have HF := Lib.hid (show f = f from rfl)
  obtain ⟨jb, hjb⟩ : ∃ jb, jb = f 0 := ⟨_, rfl⟩
  rw [← hjb] at HLf HWk HOK hneed HLt hl hc
  rw [← hjb]
  have HJB := Lib.hid hjb
  clear hjb
  obtain ⟨jl, jc, ja, jd⟩ := jb
  dsimp only at hl hc
  obtain ⟨z, hz⟩ : ∃ z, z = need ⟨jl, jc, ja, jd⟩ := ⟨_, rfl⟩
  rw [← hz] at HLf hneed
  clear hz HWk
  obtain ⟨ll, hll⟩ : ∃ ll, ll = lateS ⟨jl, jc, ja, jd⟩ (now + 1) := ⟨_, rfl⟩
  rw [← hll] at HLt
  rw [← hll]
  clear hll
  have hz1 : decide (1 < z) = false := decide_eq_false (by omega)
  have HE := Lib.hid (fun w => pended ⟨ko + 1, ko + 1, 0, kd, kc, kt⟩ 2 ll w ⟨by dsimp only; omega, by dsimp only; omega⟩ ⟨by dsimp only; omega, by dsimp only; omega⟩ ⟨by dsimp only; omega, by dsimp only; omega⟩)
  dsimp only
  obtain ⟨E, hE⟩ : ∃ E, E = endedK ⟨ko + 1, ko + 1, 0, kd, kc, kt⟩ 2 ll := ⟨_, rfl⟩
  rw [← hE] at HE
  rw [← hE]
  clear hE
  obtain ⟨eg, eo, en, ed, ec, et⟩ := E
  have hl2 : (jl == 1) = false := by simpa using hl
  clear hl hc
  go_enter Tryd.func50, Tryd.ntmps50
  go_wp2_with fail
  rw [← HW.out]
  refine (HQ.out _ (HJ.out.below HS.out.below)).mono ?_
  rintro e w1 ⟨b, s1, rfl, hq1⟩
  have H1 := Lib.hid (HS.out.turn hq1.below)
  have hhd := qhead _ _ _ _ _ _ _ hq1 h0
  rw [← HJB.out] at hhd
  have HH := Lib.hid hhd
  have HQ1 := Lib.hid hq1
  clear hq1 hhd
  go_wp2_with fail
  refine HH.out.mono ?_
  rintro e w2 ⟨rfl, hb2⟩
  obtain ⟨W3, hW3⟩ : ∃ W3, W3 = w2.alloc (.cells #[.int .i64 jl, .int .i64 jc, .int .i64 ja, .int .i64 jd] JT) := ⟨_, rfl⟩
  have H3 := Lib.hid (show GS w p (.slice q n cap) ⟨ko + 1, ko + 1, 0, kd, kc, kt⟩ W3 ∧ HasJ0 W3 w2.heap.size ⟨jl, jc, ja, jd⟩ ∧ QJ WA b s1 n f n W3 from by
    have hb3 : Below w1.heap.size w1 W3 := by rw [hW3]; exact hb2.alloc hb2.size _
    exact ⟨H1.out.turn hb3, by rw [hW3]; exact has_new _ _ _ rfl, HQ1.out.turn hb3⟩)
  have hlt := (HQ1.out.turn hb2).lt
  have hbl := hlt.1
  have HG := Lib.hid hlt.2
  have HW3 := Lib.hid hW3
  clear hW3 hb2 hlt
  go_wp2_with fail
  rw [← HW3.out]
  refine (HLf.out _).mono ?_
  rintro e w4 ⟨rfl, hb4⟩
  have H4 := Lib.hid (show GS w p (.slice q n cap) ⟨ko + 1, ko + 1, 0, kd, kc, kt⟩ w4 ∧ HasJ0 w4 w2.heap.size ⟨jl, jc, ja, jd⟩ ∧ QJ WA b s1 n f n w4 from ⟨H3.out.1.turn hb4, (hb4.block _ (has_lt H3.out.2.1)).trans H3.out.2.1, H3.out.2.2.turn hb4⟩)
  obtain ⟨j0, j1, j2, j3⟩ := H4.out.2.1.cells
  clear hb4
  go_wp2_with fail
  have HP := Lib.hid (qpop _ _ _ _ _ _ _ H4.out.2.2 h0)
  rw [← HJB.out] at HP
  refine HP.out.mono ?_
  rintro e w5 ⟨rfl, s5, hq5, hk5⟩
  have H5 := Lib.hid (HS.out.turn hq5.below)
  have hj5 := HasJ0.keeps H4.out.2.1 hk5 (by rintro (e | e); omega; have := HG.out _ e; omega)
  obtain ⟨i0, i1, i2, i3⟩ := hj5.cells
  have HQ5 := Lib.hid hq5
  clear hq5 hk5 hj5 j0 j1 j2 j3
  go_wp2_with fail
  refine (HLt.out _).mono ?_
  rintro e w6 ⟨rfl, hb6⟩
  have H6 := Lib.hid (H5.out.turn hb6)
  have HQ6 := Lib.hid (HQ5.out.turn hb6)
  obtain ⟨x0, x1, x2, x3, x4, x5, x6, x7⟩ := H6.out.t.cells
  clear hb6 i0 i1 i2 i3
  go_wp2_with fail
  refine (HE.out _).mono ?_
  rintro e w8 ⟨rfl, hb8⟩
  have H8 := Lib.hid (H6.out.turn hb8)
  have HQ8 := Lib.hid (HQ6.out.turn hb8)
  clear x0 x1 x2 x3 x4 x5 x6 x7 hb8
  obtain ⟨x0, x1, x2, x3, x4, x5, x6, x7⟩ := H8.out.t.cells
  have xf8 := fun j => has_free H8.out.t j
  have hws : w.heap.size < WA.heap.size := by have := HS.out.sz; omega
  go_wp2_with fail
  obtain ⟨W9, hW9⟩ : ∃ W9, W9 = ((((((w8.setCell ⟨w.heap.size, 2, none⟩ (.int .i64 eg)).setCell ⟨w.heap.size, 3, none⟩ (.int .i64 eo)).setCell ⟨w.heap.size, 4, none⟩ (.int .i64 en)).setCell ⟨w.heap.size, 5, none⟩ (.int .i64 ed)).setCell ⟨w.heap.size, 6, none⟩ (.int .i64 ec)).setCell ⟨w.heap.size, 7, none⟩ (.int .i64 et)) := ⟨_, rfl⟩
  have H9 := Lib.hid (show GS w p (.slice q n cap) ⟨eg, eo, en, ed, ec, et⟩ W9 from by rw [hW9]; exact H8.out.acc ⟨eg, eo, en, ed, ec, et⟩)
  have HL9 := Lib.hid (jlist_any W9 _ (n - 1) (fun i => f (i + 1)) (HQ8.out.holdsK (by
    rw [hW9]
    iterate 6 refine Keeps.setCell ?_ _ _ (.inl hws)
    exact Keeps.refl _ _)))
  rw [← hW9]
  clear hW9 x0 x1 x2 x3 x4 x5 x6 x7 xf8
  refine HL9.out.mono ?_
  rintro e w7 ⟨p7, c7, rfl, ho7, hb7⟩
  have H7 := Lib.hid (H9.out.turn hb7)
  have HO7 := Lib.hid ho7
  have hs6 := H9.out.sz
  obtain ⟨y0, y1, y2, y3, y4, y5, y6, y7⟩ := H7.out.r.cells
  have yf := fun j => has_free H7.out.r j
  obtain ⟨x0, x1, x2, x3, x4, x5, x6, x7⟩ := H7.out.t.cells
  have xf := fun j => has_free H7.out.t j
  clear hb7 ho7
  go_wp2_with fail
  refine bodyPost_ret (v := .tuple #[tV p (.slice p7 (n - 1) c7) ⟨eg, eo, en, ed, ec, et⟩, .int .i64 2, .int .i64 ll]) (by simp [results, Tryd.results50, go_sem, y0, y1, y2, y3, y4, y5, y6, y7]) rfl ⟨_, rfl, p7, c7, rfl, ?_, ?_⟩
  · refine own_base2 (B := W9.heap.size) ?_ (by omega)
    repeat (first | (with_reducible exact HO7.out) | refine own_low ?_ _ _ (by first | (simp; done) | (simp; omega)))
  · repeat (first | (with_reducible exact H7.out.below) | refine below_low ?_ _ _ (by first | (simp; done) | (simp; omega)))
end Go.Proofs.YtpfhebfkhailfaaDoor
