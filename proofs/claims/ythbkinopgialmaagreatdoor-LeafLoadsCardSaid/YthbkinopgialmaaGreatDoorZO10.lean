/- Texts of stages 3, 4, 12 and 13 that stand together: ZRefO ZRefD ZRefU ZSame ZNum ZStep ZStepA ZStepD ZStepP ZStepO; no condition but those that each row names. -/
import Derived.Test.YthbkinopgialmaaGreatDoorZO1
import Derived.Test.YthbkinopgialmaaGreatDoorZO3
import Derived.Test.YthbkinopgialmaaGreatDoorZO8
import Derived.Test.YthbkinopgialmaaGreatDoorZO9
import Derived.Deep.CutRange
import Derived.Deep.RegionLaw
/- The document's own leaf: Offer; no condition but those that each row names. -/
namespace Go.Proofs.YthbkinopgialmaaGreatDoor
open Go.RowKit Tsk

/-- What Offer answers. -/
def OffR (X : Nat → Prop) (w : World) (A' : Tab) (T' : Nat → Tk) (h m l : Int) (e : Ending) (w' : World) : Prop := ∃ gs ts ls ks, e = .returned (.tuple #[lv 2 gs ts ls ks, .int .i64 h, .int .i64 m, .int .i64 l]) ∧ DL X w' A' T' gs ts ls ks ∧ Below w.heap.size w w'
set_option maxHeartbeats 4000000 in
set_option maxRecDepth 100000 in
theorem roffer_none13 (X : Nat → Prop) (A : Tab) (T : Nat → Tk) (hg : LGood A T) (gs ts ls ks : Value) (w : World) (h : DL X w A T gs ts ls ks) (now : Int) (hr : rdy A T < 0) :
    Calls Tryz.prog 24 #[lv 2 gs ts ls ks, .int .i64 now] w (OffR X w A T 0 0 0) := by
  have HDL := Lib.hid h
  have HFI := Lib.hid (fun W (hb : Below w.heap.size w W) => rfirst X A T hg gs ts ls ks W (h.below hb))
  rw [hg.kind] at HFI
  obtain ⟨⟨p1, n1, c1, p2, n2, c2, p3, n3, c3, rfl, rfl, rfl⟩, pk, ck, rfl⟩ := sl5 h
  obtain ⟨WA, hWA⟩ : ∃ WA, WA = (w.alloc (.cells #[.int .i64 2, .slice p1 n1 c1, .slice p2 n2 c2, .slice p3 n3 c3, .slice pk 8 ck] LT)).alloc (.cells #[.int .i64 0, .slice none 0 0, .slice none 0 0, .slice none 0 0, .slice none 0 0] LT) := ⟨_, rfl⟩
  have HB := Lib.hid (show Below w.heap.size w WA from by rw [hWA]; exact ((Below.refl _ _).alloc (Nat.le_refl _) _).alloc (by simp) _)
  have HT := Lib.hid (show HasL WA w.heap.size 2 (.slice p1 n1 c1) (.slice p2 n2 c2) (.slice p3 n3 c3) (.slice pk 8 ck) ∧ HasL WA (w.heap.size + 1) 0 (.slice none 0 0) (.slice none 0 0) (.slice none 0 0) (.slice none 0 0) from by rw [hWA]; exact ⟨has_old (has_new _ _ _ rfl) _, has_new _ _ _ (by simp)⟩)
  have HW := Lib.hid hWA
  have g1 : decide (rdy A T < 0) = true := decide_eq_true hr
  generalize rdy A T = r at *
  clear hWA h hg hr
  go_enter Tryz.func24, Tryz.ntmps24
  go_upto_region 1 with fail
  rw [← HW.out]
  obtain ⟨a0, a1, a2, a3, a4⟩ := HT.out.1.cells
  go_wp2_with fail
  refine (HFI.out _ HB.out).mono ?_
  rintro e w1 ⟨rfl, hb1⟩
  have HB1 := Lib.hid (bnext HB.out hb1)
  have HT1 := Lib.hid (HT.out.1.below hb1)
  have HT2 := Lib.hid (HT.out.2.below hb1)
  clear a0 a1 a2 a3 a4 hb1
  obtain ⟨a0, a1, a2, a3, a4⟩ := HT1.out.cells
  obtain ⟨y0, y1, y2, y3, y4⟩ := HT2.out.cells
  have fr := fun j => has_free HT2.out j
  go_wp2_with fail
  refine bodyPost_ret (v := .tuple #[lv 2 (.slice p1 n1 c1) (.slice p2 n2 c2) (.slice p3 n3 c3) (.slice pk 8 ck), .int .i64 0, .int .i64 0, .int .i64 0]) (by simp [results, Tryz.results24, go_sem, y0, y1, y2, y3, y4]) rfl ?_
  have hbel := below5 HB1.out (g := w.heap.size + 1) (by omega) (.int .i64 2) (.slice p1 n1 c1) (.slice p2 n2 c2) (.slice p3 n3 c3) (.slice pk 8 ck)
  exact ⟨_, _, _, _, rfl, HDL.out.below hbel, hbel⟩
set_option maxHeartbeats 4000000 in
set_option maxRecDepth 100000 in
theorem roffer_no13 (X : Nat → Prop) (A : Tab) (T : Nat → Tk) (hg : LGood A T) (gs ts ls ks : Value) (w : World) (h : DL X w A T gs ts ls ks) (hX : ∀ x, X x → x < w.heap.size) (now : Int) (i : Nat) (hr : rdy A T = i) (hi : i < 8) (hti0 : A.t i = true) (hE : runE (T i).p (T i).n (T i).f (T i).k now ≠ 0) :
    Calls Tryz.prog 24 #[lv 2 gs ts ls ks, .int .i64 now] w (OffR X w A T 0 0 0) := by
  have HDL := Lib.hid h
  obtain ⟨X2, hX2⟩ : ∃ X2 : Nat → Prop, X2 = fun x => X x ∨ x = w.heap.size ∨ x = w.heap.size + 1 := ⟨_, rfl⟩
  have hD2 : DL X2 w A T gs ts ls ks := h.mono (fun x hx hy => by rw [hX2] at hy; rcases hy with hy | hy | hy; exact hy; omega; omega)
  have HX2 := Lib.hid (show ∀ x, X2 x → x < w.heap.size + 2 from fun x hx => by rw [hX2] at hx; rcases hx with hx | hx | hx; have := hX x hx; omega; omega; omega)
  have HX2b := Lib.hid (show (∀ x, X x → X2 x) ∧ X2 w.heap.size ∧ X2 (w.heap.size + 1) from by rw [hX2]; exact ⟨fun x hx => .inl hx, .inr (.inl rfl), .inr (.inr rfl)⟩)
  have HFI := Lib.hid (fun W (hb : Below w.heap.size w W) => rfirst X A T hg gs ts ls ks W (h.below hb))
  have HHA := Lib.hid (fun W (hb : Below w.heap.size w W) => rhandle X A T hg gs ts ls ks W (h.below hb) i hti0)
  rw [hg.kind] at HFI HHA
  rw [hr] at HFI
  obtain ⟨sl, hTX⟩ := hD2.tk
  have HRT := Lib.hid hD2.rt
  have HS3 := Lib.hid h.rt.sl3
  have HTMU := Lib.hid (fun p s n f k => tm_upd T sl i p s n f k sN)
  have HPU := Lib.hid (fun W (hb : Below w.heap.size w W) (hs : w.heap.size + 2 ≤ W.heap.size) p s n f k hj => rput X2 W (fun x hx => Nat.lt_of_lt_of_le (HX2.out x hx) hs) 2 gs ts ls ks HS3.out (tm T sl) (hTX.below hb) i hi p s n f k hj)
  have hok := hg.ok i
  obtain ⟨⟨p1, n1, c1, p2, n2, c2, p3, n3, c3, rfl, rfl, rfl⟩, pk, ck, rfl⟩ := sl5 h
  obtain ⟨_, _, e, _, hc⟩ := hTX.tk
  simp only [Value.slice.injEq] at e
  obtain ⟨bk, ok, e2, d0, d1, d2, d3, d4, d5, d6, d7, hJ0⟩ := hc i hi
  have e3 : pk = some ⟨bk, ok, none⟩ := by rw [e.1]; exact e2
  subst e3
  have hbk : bk < w.heap.size := cell_lt d0
  have HJ := Lib.hid hJ0
  obtain ⟨q0, cq0, hq0, _⟩ := hJ0
  dsimp only [tm] at d0 d1 d2 d3 d4 d5 d6 d7 hq0 HJ
  rw [hq0] at d1 HJ
  obtain ⟨t, hti⟩ : ∃ t, t = T i := ⟨_, rfl⟩
  rw [← hti] at d0 d1 d2 d3 d4 d5 d6 d7 HJ hok hE
  obtain ⟨tp, ts', tn, tf, ⟨kg, ko, kn, kd, kc, kt⟩⟩ := t
  dsimp only at d0 d1 d2 d3 d4 d5 d6 d7 HJ hE
  have hn8 : tn ≤ 8 := hok.2.1
  have HRU := Lib.hid (fun W (hb : Below w.heap.size w W) => rrun_any2 tp (.slice q0 tn cq0) tn tf ⟨kg, ko, kn, kd, kc, kt⟩ now W (HJ.out.below hb))
  have HXC := Lib.hid (fun W (hb : Below w.heap.size w W) => show _ ∧ _ ∧ _ ∧ _ ∧ _ ∧ _ ∧ _ ∧ _ from ⟨(hb.cell (p := ⟨bk, ok + i * 8, none⟩) hbk).trans d0, (hb.cell (p := ⟨bk, ok + i * 8 + 1, none⟩) hbk).trans d1, (hb.cell (p := ⟨bk, ok + i * 8 + 2, none⟩) hbk).trans d2, (hb.cell (p := ⟨bk, ok + i * 8 + 3, none⟩) hbk).trans d3, (hb.cell (p := ⟨bk, ok + i * 8 + 4, none⟩) hbk).trans d4, (hb.cell (p := ⟨bk, ok + i * 8 + 5, none⟩) hbk).trans d5, (hb.cell (p := ⟨bk, ok + i * 8 + 6, none⟩) hbk).trans d6, (hb.cell (p := ⟨bk, ok + i * 8 + 7, none⟩) hbk).trans d7⟩)
  obtain ⟨WA, hWA⟩ : ∃ WA, WA = (w.alloc (.cells #[.int .i64 2, .slice p1 n1 c1, .slice p2 n2 c2, .slice p3 n3 c3, .slice (some ⟨bk, ok, none⟩) 8 ck] LT)).alloc (.cells #[.int .i64 0, .slice none 0 0, .slice none 0 0, .slice none 0 0, .slice none 0 0] LT) := ⟨_, rfl⟩
  have HB := Lib.hid (show Below w.heap.size w WA ∧ WA.heap.size = w.heap.size + 2 from by rw [hWA]; exact ⟨((Below.refl _ _).alloc (Nat.le_refl _) _).alloc (by simp) _, by simp⟩)
  have HT := Lib.hid (show HasL WA w.heap.size 2 (.slice p1 n1 c1) (.slice p2 n2 c2) (.slice p3 n3 c3) (.slice (some ⟨bk, ok, none⟩) 8 ck) ∧ HasL WA (w.heap.size + 1) 0 (.slice none 0 0) (.slice none 0 0) (.slice none 0 0) (.slice none 0 0) from by rw [hWA]; exact ⟨has_old (has_new _ _ _ rfl) _, has_new _ _ _ (by simp)⟩)
  have HW := Lib.hid hWA
  have z0 : (0 : Int) ≤ (i : Int) := by omega
  have z1 : (i : Int) < 8 := by omega
  have z2 : decide ((i : Int) < 0) = false := decide_eq_false (by omega)
  clear hWA h hg hX2 hX hD2 hTX hc e e2 hti d0 d1 d2 d3 d4 d5 d6 d7 hr hti0 hi hq0 hok hbk
  obtain ⟨E, hEE⟩ : ∃ E, E = runE tp tn tf ⟨kg, ko, kn, kd, kc, kt⟩ now := ⟨_, rfl⟩
  rw [← hEE] at HRU hE
  clear hEE
  simp only [if_neg hE] at HRU
  have g1 : (E != 0) = true := by simpa using hE
  clear hE
  go_enter Tryz.func24, Tryz.ntmps24
  go_upto_region 1 with fail
  rw [← HW.out]
  obtain ⟨a0, a1, a2, a3, a4⟩ := HT.out.1.cells
  go_wp2_with fail
  refine (HFI.out _ HB.out.1).mono ?_
  rintro e w1 ⟨rfl, hb1⟩
  have hs1 := hb1.size
  have HB1 := Lib.hid (show Below w.heap.size w w1 ∧ w.heap.size + 2 ≤ w1.heap.size from ⟨bnext HB.out.1 hb1, by have := HB.out.2; omega⟩)
  have HK1 := Lib.hid (show HasL w1 w.heap.size 2 (.slice p1 n1 c1) (.slice p2 n2 c2) (.slice p3 n3 c3) (.slice (some ⟨bk, ok, none⟩) 8 ck) ∧ HasL w1 (w.heap.size + 1) 0 (.slice none 0 0) (.slice none 0 0) (.slice none 0 0) (.slice none 0 0) from ⟨HT.out.1.below hb1, HT.out.2.below hb1⟩)
  clear hb1 hs1 a0 a1 a2 a3 a4
  obtain ⟨a0, a1, a2, a3, a4⟩ := HK1.out.1.cells
  obtain ⟨d0, d1, d2, d3, d4, d5, d6, d7⟩ := HXC.out w1 HB1.out.1
  go_wp2_with fail
  refine (HRU.out w1 HB1.out.1).mono ?_
  rintro e w2 ⟨xx, rfl, s2, rfl, hj2, hb2⟩
  obtain ⟨⟨r2, cr2, rfl, _⟩, _⟩ := id hj2
  have hs2 := hb2.size
  have HB2 := Lib.hid (bnext HB1.out.1 hb2)
  have HK2 := Lib.hid (show HasL w2 w.heap.size 2 (.slice p1 n1 c1) (.slice p2 n2 c2) (.slice p3 n3 c3) (.slice (some ⟨bk, ok, none⟩) 8 ck) ∧ HasL w2 (w.heap.size + 1) 0 (.slice none 0 0) (.slice none 0 0) (.slice none 0 0) (.slice none 0 0) from ⟨HK1.out.1.below hb2, HK1.out.2.below hb2⟩)
  have hl : w.heap.size + 1 < w2.heap.size := has_lt HK2.out.2
  have hl0 : w.heap.size < w2.heap.size := by omega
  have HL2 := Lib.hid hl
  clear hb2 hs2 hj2 a0 a1 a2 a3 a4 d0 d1 d2 d3 d4 d5 d6 d7
  obtain ⟨a0, a1, a2, a3, a4⟩ := HK2.out.1.cells
  obtain ⟨y0, y1, y2, y3, y4⟩ := HK2.out.2.cells
  have fr := fun j => has_free HK2.out.2 j
  go_wp2_with fail
  refine bodyPost_ret (v := .tuple #[lv 2 (.slice p1 n1 c1) (.slice p2 n2 c2) (.slice p3 n3 c3) (.slice (some ⟨bk, ok, none⟩) 8 ck), .int .i64 0, .int .i64 0, .int .i64 0]) (by simp [results, Tryz.results24, go_sem, y0, y1, y2, y3, y4, hl]) rfl ?_
  have hbel := (below5 HB2.out (g := w.heap.size + 1) (by omega) (.int .i64 2) (.slice p1 n1 c1) (.slice p2 n2 c2) (.slice p3 n3 c3) (.slice (some ⟨bk, ok, none⟩) 8 ck)).alloc (by have := HL2.out; simp [World.setCell]; omega) (.cells #[.int .i64 0, .slice r2 0 cr2, .int .i64 0, .int .i64 0, .int .i64 0, .int .i64 0, .int .i64 0, .int .i64 0] KT)
  exact ⟨_, _, _, _, rfl, HDL.out.below hbel, hbel⟩
set_option maxHeartbeats 8000000 in
set_option maxRecDepth 100000 in
theorem roffer_yes13 (X : Nat → Prop) (A : Tab) (T : Nat → Tk) (hg : LGood A T) (gs ts ls ks : Value) (w : World) (h : DL X w A T gs ts ls ks) (hX : ∀ x, X x → x < w.heap.size) (now : Int) (i : Nat) (hr : rdy A T = i) (hi : i < 8) (hti0 : A.t i = true) (hE : runE (T i).p (T i).n (T i).f (T i).k now = 0) :
    Calls Tryz.prog 24 #[lv 2 gs ts ls ks, .int .i64 now] w (OffR X w A (upd T i (tkRun (T i) sN now)) (A.hd i) (markS (runW ((T i).f 0))) (runL ((T i).f 0) now)) := by
  have HDL := Lib.hid h
  obtain ⟨X2, hX2⟩ : ∃ X2 : Nat → Prop, X2 = fun x => X x ∨ x = w.heap.size ∨ x = w.heap.size + 1 := ⟨_, rfl⟩
  have hD2 : DL X2 w A T gs ts ls ks := h.mono (fun x hx hy => by rw [hX2] at hy; rcases hy with hy | hy | hy; exact hy; omega; omega)
  have HX2 := Lib.hid (show ∀ x, X2 x → x < w.heap.size + 2 from fun x hx => by rw [hX2] at hx; rcases hx with hx | hx | hx; have := hX x hx; omega; omega; omega)
  have HX2b := Lib.hid (show (∀ x, X x → X2 x) ∧ X2 w.heap.size ∧ X2 (w.heap.size + 1) from by rw [hX2]; exact ⟨fun x hx => .inl hx, .inr (.inl rfl), .inr (.inr rfl)⟩)
  have HFI := Lib.hid (fun W (hb : Below w.heap.size w W) => rfirst X A T hg gs ts ls ks W (h.below hb))
  have HHA := Lib.hid (fun W (hb : Below w.heap.size w W) => rhandle X A T hg gs ts ls ks W (h.below hb) i hti0)
  rw [hg.kind] at HFI HHA
  rw [hr] at HFI
  obtain ⟨sl, hTX⟩ := hD2.tk
  have HRT := Lib.hid hD2.rt
  have HS3 := Lib.hid h.rt.sl3
  have HTMU := Lib.hid (fun p s n f k => tm_upd T sl i p s n f k sN)
  have HPU := Lib.hid (fun W (hb : Below w.heap.size w W) (hs : w.heap.size + 2 ≤ W.heap.size) p s n f k hj => rput X2 W (fun x hx => Nat.lt_of_lt_of_le (HX2.out x hx) hs) 2 gs ts ls ks HS3.out (tm T sl) (hTX.below hb) i hi p s n f k hj)
  have hok := hg.ok i
  obtain ⟨⟨p1, n1, c1, p2, n2, c2, p3, n3, c3, rfl, rfl, rfl⟩, pk, ck, rfl⟩ := sl5 h
  obtain ⟨_, _, e, _, hc⟩ := hTX.tk
  simp only [Value.slice.injEq] at e
  obtain ⟨bk, ok, e2, d0, d1, d2, d3, d4, d5, d6, d7, hJ0⟩ := hc i hi
  have e3 : pk = some ⟨bk, ok, none⟩ := by rw [e.1]; exact e2
  subst e3
  have hbk : bk < w.heap.size := cell_lt d0
  have HJ := Lib.hid hJ0
  obtain ⟨q0, cq0, hq0, _⟩ := hJ0
  dsimp only [tm] at d0 d1 d2 d3 d4 d5 d6 d7 hq0 HJ
  rw [hq0] at d1 HJ
  obtain ⟨t, hti⟩ : ∃ t, t = T i := ⟨_, rfl⟩
  rw [← hti] at d0 d1 d2 d3 d4 d5 d6 d7 HJ hok hE ⊢
  obtain ⟨tp, ts', tn, tf, ⟨kg, ko, kn, kd, kc, kt⟩⟩ := t
  dsimp only at d0 d1 d2 d3 d4 d5 d6 d7 HJ hE ⊢
  have hn8 : tn ≤ 8 := hok.2.1
  have HRU := Lib.hid (fun W (hb : Below w.heap.size w W) => rrun_any2 tp (.slice q0 tn cq0) tn tf ⟨kg, ko, kn, kd, kc, kt⟩ now W (HJ.out.below hb))
  have HXC := Lib.hid (fun W (hb : Below w.heap.size w W) => show _ ∧ _ ∧ _ ∧ _ ∧ _ ∧ _ ∧ _ ∧ _ from ⟨(hb.cell (p := ⟨bk, ok + i * 8, none⟩) hbk).trans d0, (hb.cell (p := ⟨bk, ok + i * 8 + 1, none⟩) hbk).trans d1, (hb.cell (p := ⟨bk, ok + i * 8 + 2, none⟩) hbk).trans d2, (hb.cell (p := ⟨bk, ok + i * 8 + 3, none⟩) hbk).trans d3, (hb.cell (p := ⟨bk, ok + i * 8 + 4, none⟩) hbk).trans d4, (hb.cell (p := ⟨bk, ok + i * 8 + 5, none⟩) hbk).trans d5, (hb.cell (p := ⟨bk, ok + i * 8 + 6, none⟩) hbk).trans d6, (hb.cell (p := ⟨bk, ok + i * 8 + 7, none⟩) hbk).trans d7⟩)
  obtain ⟨WA, hWA⟩ : ∃ WA, WA = (w.alloc (.cells #[.int .i64 2, .slice p1 n1 c1, .slice p2 n2 c2, .slice p3 n3 c3, .slice (some ⟨bk, ok, none⟩) 8 ck] LT)).alloc (.cells #[.int .i64 0, .slice none 0 0, .slice none 0 0, .slice none 0 0, .slice none 0 0] LT) := ⟨_, rfl⟩
  have HB := Lib.hid (show Below w.heap.size w WA ∧ WA.heap.size = w.heap.size + 2 from by rw [hWA]; exact ⟨((Below.refl _ _).alloc (Nat.le_refl _) _).alloc (by simp) _, by simp⟩)
  have HT := Lib.hid (show HasL WA w.heap.size 2 (.slice p1 n1 c1) (.slice p2 n2 c2) (.slice p3 n3 c3) (.slice (some ⟨bk, ok, none⟩) 8 ck) ∧ HasL WA (w.heap.size + 1) 0 (.slice none 0 0) (.slice none 0 0) (.slice none 0 0) (.slice none 0 0) from by rw [hWA]; exact ⟨has_old (has_new _ _ _ rfl) _, has_new _ _ _ (by simp)⟩)
  have HW := Lib.hid hWA
  have z0 : (0 : Int) ≤ (i : Int) := by omega
  have z1 : (i : Int) < 8 := by omega
  have z2 : decide ((i : Int) < 0) = false := decide_eq_false (by omega)
  clear hWA h hg hX2 hX hD2 hTX hc e e2 hti d0 d1 d2 d3 d4 d5 d6 d7 hr hti0 hi hq0 hok hbk
  rw [hE] at HRU
  simp only [if_true] at HRU
  unfold tkRun
  dsimp only
  clear hE
  generalize runL (tf 0) now = lt at *
  obtain ⟨kk, hkk⟩ : ∃ kk, kk = runK ⟨kg, ko, kn, kd, kc, kt⟩ (tf 0) now := ⟨_, rfl⟩
  rw [← hkk] at HRU ⊢
  clear hkk
  obtain ⟨rg, ro, rnn, rd, rc, rt⟩ := kk
  generalize runW (tf 0) = wt at *
  generalize runN tn (tf 0) = rn at *
  generalize runF tf = rf at *
  generalize A.hd i = hx at *
  go_enter Tryz.func24, Tryz.ntmps24
  go_upto_region 1 with fail
  rw [← HW.out]
  obtain ⟨a0, a1, a2, a3, a4⟩ := HT.out.1.cells
  go_wp2_with fail
  refine (HFI.out _ HB.out.1).mono ?_
  rintro e w1 ⟨rfl, hb1⟩
  have hs1 := hb1.size
  have HB1 := Lib.hid (show Below w.heap.size w w1 ∧ w.heap.size + 2 ≤ w1.heap.size from ⟨bnext HB.out.1 hb1, by have := HB.out.2; omega⟩)
  have HK1 := Lib.hid (show HasL w1 w.heap.size 2 (.slice p1 n1 c1) (.slice p2 n2 c2) (.slice p3 n3 c3) (.slice (some ⟨bk, ok, none⟩) 8 ck) ∧ HasL w1 (w.heap.size + 1) 0 (.slice none 0 0) (.slice none 0 0) (.slice none 0 0) (.slice none 0 0) from ⟨HT.out.1.below hb1, HT.out.2.below hb1⟩)
  clear hb1 hs1 a0 a1 a2 a3 a4
  obtain ⟨a0, a1, a2, a3, a4⟩ := HK1.out.1.cells
  obtain ⟨d0, d1, d2, d3, d4, d5, d6, d7⟩ := HXC.out w1 HB1.out.1
  go_wp2_with fail
  refine (HRU.out w1 HB1.out.1).mono ?_
  rintro e w2 ⟨xx, rfl, s2, rfl, hj2, hb2⟩
  obtain ⟨⟨r2, cr2, rfl, _⟩, _⟩ := id hj2
  have hs2 := hb2.size
  obtain ⟨W2, hW2⟩ : ∃ W2, W2 = w2.alloc (.cells #[.int .i64 tp, .slice r2 rn cr2, .int .i64 rg, .int .i64 ro, .int .i64 rnn, .int .i64 rd, .int .i64 rc, .int .i64 rt] KT) := ⟨_, rfl⟩
  have HB2 := Lib.hid (show Below w.heap.size w W2 ∧ w.heap.size + 2 ≤ w2.heap.size ∧ W2.heap.size = w2.heap.size + 1 from by
    have h1 := bnext HB1.out.1 hb2
    have h2 := HB1.out.2
    rw [hW2]
    exact ⟨h1.alloc h1.size _, by omega, by simp⟩)
  have HK2 := Lib.hid (show HasL W2 w.heap.size 2 (.slice p1 n1 c1) (.slice p2 n2 c2) (.slice p3 n3 c3) (.slice (some ⟨bk, ok, none⟩) 8 ck) ∧ HasL W2 (w.heap.size + 1) 0 (.slice none 0 0) (.slice none 0 0) (.slice none 0 0) (.slice none 0 0) ∧ HasT W2 w2.heap.size tp (.slice r2 rn cr2) ⟨rg, ro, rnn, rd, rc, rt⟩ from by
    rw [hW2]; exact ⟨has_old (HK1.out.1.below hb2) _, has_old (HK1.out.2.below hb2) _, hasT_new w2 tp _ ⟨rg, ro, rnn, rd, rc, rt⟩⟩)
  have HJ2 := Lib.hid (show JobsX X2 W2 (.slice r2 rn cr2) rn rf from by
    have h2 := HB1.out.2
    rw [hW2]
    refine JobsX.below ⟨hj2.1, fun a m c e h0 k => ?_⟩ ((Below.refl _ _).alloc (Nat.le_refl _) _)
    have hm : 0 < m := by cases e; exact h0
    have h3 := hj2.2 a m c e hm
    have h4 := HX2.out _ k
    omega)
  have HW2 := Lib.hid hW2
  clear hW2 hb2 hs2 hj2 a0 a1 a2 a3 a4 d0 d1 d2 d3 d4 d5 d6 d7
  go_upto_region 5 with fail
  rw [← HW2.out]
  have HD := Lib.hid (fun W (hb : Below W2.heap.size W2 W) => show _ ∧ _ ∧ _ ∧ ∀ j, W.frozen? ⟨w.heap.size + 1, j, none⟩ = false from ⟨HasL.cells (HK2.out.1.below hb), HasL.cells (HK2.out.2.1.below hb), HasT.cells (HK2.out.2.2.below hb), fun j => has_free (HK2.out.2.1.below hb) j⟩)
  have HPU2 := Lib.hid (fun W (hb : Below W2.heap.size W2 W) => HPU.out W (bnext HB2.out.1 hb) (by have := hb.size; have := HB2.out.2; omega) tp (.slice r2 rn cr2) rn rf ⟨rg, ro, rnn, rd, rc, rt⟩ (HJ2.out.below hb))
  have HHA2 := Lib.hid (fun W (hb : Below W2.heap.size W2 W) => HHA.out W (bnext HB2.out.1 hb))
  unfold PutP at HPU2
  obtain ⟨a0, a1, a2, a3, a4⟩ := HK2.out.1.cells
  obtain ⟨y0, y1, y2, y3, y4⟩ := HK2.out.2.1.cells
  obtain ⟨x0, x1, x2, x3, x4, x5, x6, x7⟩ := HK2.out.2.2.cells
  have hm : (wt = 1 ∧ markS wt = 8) ∨ (wt = 2 ∧ markS wt = 9) ∨ ((wt == 1) = false ∧ (wt == 2) = false ∧ markS wt = 0) := by
    by_cases h1 : wt = 1
    · exact .inl ⟨h1, by unfold markS; rw [if_pos h1]⟩
    · by_cases h2 : wt = 2
      · exact .inr (.inl ⟨h2, by unfold markS; rw [if_neg h1, if_pos h2]⟩)
      · exact .inr (.inr ⟨by simpa using h1, by simpa using h2, by unfold markS; rw [if_neg h1, if_neg h2]⟩)
  go_upto_region 7 with fail
  iterate 8 go_step
  go_cut [13] (fun s13 wx => s13 = .int .i64 (markS wt) ∧ W2 = wx)
  case first =>
    rcases hm with ⟨rfl, hm⟩ | ⟨rfl, hm⟩ | ⟨g1, g2, hm⟩
    all_goals
      have HM := Lib.hid hm
      clear hm
      go_wp2_with fail
      go_meet
      exact ⟨by rw [HM.out], rfl⟩
  case rest =>
    obtain ⟨rfl, rfl⟩ := hcut
    clear hm
    generalize markS wt = mk at *
    go_upto_region 13 with fail
    go_region_law (first
      | (go_simp; go_at_call 61; refine (HHA2.out _ (by first | exact below_drewOne | exact hq3)).mono ?_; rintro e wf ⟨rfl, hqb⟩; have hq2 := bnext (by first | exact below_drewOne | exact hq3) hqb; have HQ3 := Lib.hid hq2; try (have HTP := Lib.hid (HTP.out.below hqb)); obtain ⟨⟨a0, a1, a2, a3, a4⟩, ⟨y0, y1, y2, y3, y4⟩, ⟨x0, x1, x2, x3, x4, x5, x6, x7⟩, fy⟩ := HD.out _ hq2)
      | (go_simp; go_at_call 50; refine (HPU2.out _ (by first | exact below_drewOne | exact hq2)).mono ?_; rintro e wp ⟨ks5, rfl, htp, hqp⟩; have hq3 := bnext (by first | exact below_drewOne | exact hq2) hqp; obtain ⟨pk5, ck5, rfl, _⟩ := id htp.tk; have HTP := Lib.hid htp; have HQ3 := Lib.hid hq3; obtain ⟨⟨a0, a1, a2, a3, a4⟩, ⟨y0, y1, y2, y3, y4⟩, ⟨x0, x1, x2, x3, x4, x5, x6, x7⟩, fy⟩ := HD.out _ hq3))
    all_goals
      go_wp2_with fail
      refine bodyPost_ret (v := .tuple #[lv 2 (.slice p1 n1 c1) (.slice p2 n2 c2) (.slice p3 n3 c3) (.slice pk5 8 ck5), .int .i64 hx, _, .int .i64 lt]) (by simp [results, Tryz.results24, go_sem, y0, y1, y2, y3, y4]; exact rfl) rfl ?_
      have hkp := fun W => keeps5 (Keeps.refl X2 W) HX2b.out.2.2 (.int .i64 2) (.slice p1 n1 c1) (.slice p2 n2 c2) (.slice p3 n3 c3) (.slice pk5 8 ck5)
      exact ⟨_, _, _, _, rfl, DL.mono (X := X2) ⟨((HRT.out.below HB2.out.1).below HQ3.out).keeps (hkp _), _, (TasksX.keeps (by rw [HTMU.out]; exact HTP.out) (hkp _) (fun _ k => k))⟩ (fun x _ hx => HX2b.out.1 x hx), below5 (bnext HB2.out.1 HQ3.out) (by omega) _ _ _ _ _⟩
theorem roffer13 (X : Nat → Prop) (A : Tab) (T : Nat → Tk) (hg : LGood A T) (gs ts ls ks : Value) (w : World) (h : DL X w A T gs ts ls ks) (hX : ∀ x, X x → x < w.heap.size) (now : Int) :
    Calls Tryz.prog 24 #[lv 2 gs ts ls ks, .int .i64 now] w (OffR X w A (offT A T now) (offH A T now) (offM A T now) (offL A T now)) := by
  rcases off_ways A T now with ⟨hr, e1, e2, e3, e4⟩ | ⟨i, hr, hi, ht, _, ⟨hE, e1, e2, e3, e4⟩ | ⟨hE, e1, e2, e3, e4⟩⟩
  · rw [e1, e2, e3, e4]; exact roffer_none13 X A T hg gs ts ls ks w h now hr
  · rw [e1, e2, e3, e4]; exact roffer_no13 X A T hg gs ts ls ks w h hX now i hr hi ht hE
  · rw [e1, e2, e3, e4]; exact roffer_yes13 X A T hg gs ts ls ks w h hX now i hr hi ht hE
end Go.Proofs.YthbkinopgialmaaGreatDoor
/- The document's own leaf: Drop; no condition but those that each row names. -/
namespace Go.Proofs.YthbkinopgialmaaGreatDoor
open Go.RowKit Tsk

/-- What Drop answers. -/
def DropR (X : Nat → Prop) (w : World) (A' : Tab) (T' : Nat → Tk) (K : Ac) (n : Int) (e : Ending) (w' : World) : Prop := ∃ gs ts ls ks, e = .returned (.tuple #[lv 2 gs ts ls ks, kV6 K, .int .i64 n]) ∧ DL X w' A' T' gs ts ls ks ∧ Below w.heap.size w w'
theorem keeps6s {R : Nat → Prop} {g : Nat} {w W : World} (h : Keeps R w W) (hg : R g) (v0 v1 v2 v3 v4 v5 : Value) : Keeps R w ((((((W.setCell ⟨g, 0, none⟩ v0).setCell ⟨g, 1, none⟩ v1).setCell ⟨g, 2, none⟩ v2).setCell ⟨g, 3, none⟩ v3).setCell ⟨g, 4, none⟩ v4).setCell ⟨g, 5, none⟩ v5) :=
  (((((h.setS _ _ hg).setS _ _ hg).setS _ _ hg).setS _ _ hg).setS _ _ hg).setS _ _ hg
set_option maxHeartbeats 4000000 in
set_option maxRecDepth 100000 in
theorem rdrop_none13 (X : Nat → Prop) (A : Tab) (T : Nat → Tk) (hg : LGood A T) (gs ts ls ks : Value) (w : World) (h : DL X w A T gs ts ls ks) (x : Int) (hf : A.find x = none) :
    Calls Tryz.prog 20 #[lv 2 gs ts ls ks, .int .i64 x] w (DropR X w A T kZ 20) := by
  have HDL := Lib.hid h
  have HFI := Lib.hid (fun W (hb : Below w.heap.size w W) => rfind_any X A hg.tab x gs ts ls W (h.rt.below hb))
  rw [hf, show optV none = -1 from rfl, hg.kind] at HFI
  obtain ⟨⟨p1, n1, c1, p2, n2, c2, p3, n3, c3, rfl, rfl, rfl⟩, pk, ck, rfl⟩ := sl5 h
  obtain ⟨WA, hWA⟩ : ∃ WA, WA = ((w.alloc (.cells #[.int .i64 2, .slice p1 n1 c1, .slice p2 n2 c2, .slice p3 n3 c3, .slice pk 8 ck] LT)).alloc (.cells #[.int .i64 0, .slice none 0 0, .slice none 0 0, .slice none 0 0, .slice none 0 0] LT)).alloc (.cells #[.int .i64 0, .int .i64 0, .int .i64 0, .int .i64 0, .int .i64 0, .int .i64 0] 59) := ⟨_, rfl⟩
  have HB := Lib.hid (show Below w.heap.size w WA from by rw [hWA]; exact (((Below.refl _ _).alloc (Nat.le_refl _) _).alloc (by simp) _).alloc (by simp; omega) _)
  have HT := Lib.hid (show HasL WA w.heap.size 2 (.slice p1 n1 c1) (.slice p2 n2 c2) (.slice p3 n3 c3) (.slice pk 8 ck) ∧ HasL WA (w.heap.size + 1) 0 (.slice none 0 0) (.slice none 0 0) (.slice none 0 0) (.slice none 0 0) ∧ HasA WA (w.heap.size + 1 + 1) kZ from by rw [hWA]; exact ⟨has_old (has_old (has_new _ _ _ rfl) _) _, has_old (has_new _ _ _ (by simp)) _, has_new _ _ _ (by simp)⟩)
  have HW := Lib.hid hWA
  clear hWA h hf hg
  go_enter Tryz.func20, Tryz.ntmps20
  go_upto_region 1 with fail
  rw [← HW.out]
  obtain ⟨a0, a1, a2, a3, a4⟩ := HT.out.1.cells
  go_wp2_with fail
  refine (HFI.out _ HB.out).mono ?_
  rintro e w1 ⟨rfl, hb1⟩
  have HB1 := Lib.hid (bnext HB.out hb1)
  have HT1 := Lib.hid (HT.out.1.below hb1)
  have HT2 := Lib.hid (HT.out.2.1.below hb1)
  have HT3 := Lib.hid (HT.out.2.2.below hb1)
  clear a0 a1 a2 a3 a4 hb1
  obtain ⟨a0, a1, a2, a3, a4⟩ := HT1.out.cells
  obtain ⟨y0, y1, y2, y3, y4⟩ := HT2.out.cells
  obtain ⟨z0, z1, z2, z3, z4, z5⟩ := HT3.out.cells
  have fr := fun j => has_free HT2.out j
  have fr3 := fun j => has_free HT3.out j
  go_wp2_with fail
  refine bodyPost_ret (v := .tuple #[lv 2 (.slice p1 n1 c1) (.slice p2 n2 c2) (.slice p3 n3 c3) (.slice pk 8 ck), kV6 kZ, .int .i64 20]) (by simp [results, Tryz.results20, go_sem, y0, y1, y2, y3, y4, z0, z1, z2, z3, z4, z5]) rfl ?_
  have hbel := below6 (below5 HB1.out (g := w.heap.size + 1) (by omega) (.int .i64 2) (.slice p1 n1 c1) (.slice p2 n2 c2) (.slice p3 n3 c3) (.slice pk 8 ck)) (g := w.heap.size + 1 + 1) (by omega) (.int .i64 0) (.int .i64 0) (.int .i64 0) (.int .i64 0) (.int .i64 0) (.int .i64 0)
  exact ⟨_, _, _, _, rfl, HDL.out.below hbel, hbel⟩
set_option maxHeartbeats 4000000 in
set_option maxRecDepth 100000 in
theorem rdrop_some13 (X : Nat → Prop) (A : Tab) (T : Nat → Tk) (hg : LGood A T) (gs ts ls ks : Value) (w : World) (h : DL X w A T gs ts ls ks) (hX : ∀ x, X x → x < w.heap.size) (x : Int) (i : Nat) (hf : A.find x = some i) :
    Calls Tryz.prog 20 #[lv 2 gs ts ls ks, .int .i64 x] w (DropR X w (A.dropAt i) (upd T i tk0) (T i).k 0) := by
  obtain ⟨X2, hX2⟩ : ∃ X2 : Nat → Prop, X2 = fun x => X x ∨ x = w.heap.size ∨ x = w.heap.size + 1 ∨ x = w.heap.size + 1 + 1 := ⟨_, rfl⟩
  have hD2 : DL X2 w A T gs ts ls ks := h.mono (fun x hx hy => by rw [hX2] at hy; rcases hy with hy | hy | hy | hy; exact hy; omega; omega; omega)
  have HX2 := Lib.hid (show ∀ x, X2 x → x < w.heap.size + 3 from fun x hx => by rw [hX2] at hx; rcases hx with hx | hx | hx | hx; have := hX x hx; omega; omega; omega; omega)
  have HX2b := Lib.hid (show (∀ x, X x → X2 x) ∧ X2 w.heap.size ∧ X2 (w.heap.size + 1) ∧ X2 (w.heap.size + 1 + 1) from by rw [hX2]; exact ⟨fun x hx => .inl hx, .inr (.inl rfl), .inr (.inr (.inl rfl)), .inr (.inr (.inr rfl))⟩)
  have hk2 : A.kind = 2 := hg.kind
  have HFI := Lib.hid (fun W (hb : Below w.heap.size w W) => rfind_any X A hg.tab x gs ts ls W (h.rt.below hb))
  rw [hf, show optV (some i) = (i : Int) from rfl, hk2] at HFI
  have HDR := Lib.hid (fun W (hb : Below w.heap.size w W) (hs : w.heap.size + 3 ≤ W.heap.size) => rdrop_some X2 A hg.tab x i hf gs ts ls W (hD2.rt.below hb) (fun x hx => Nat.lt_of_lt_of_le (HX2.out x hx) hs))
  unfold TabPost at HDR
  rw [hk2, show (A.dropAt i).kind = 2 from hk2] at HDR
  obtain ⟨hi, _, _⟩ := find_inv hf
  have hi8 : i < 8 := by have := hg.len; omega
  obtain ⟨sl, hTX⟩ := hD2.tk
  have HPU := Lib.hid (fun W (hb : Below w.heap.size w W) (hs : w.heap.size + 3 ≤ W.heap.size) gs ts ls (h3 : IsSl3 gs ts ls) => rput X2 W (fun x hx => Nat.lt_of_lt_of_le (HX2.out x hx) hs) 2 gs ts ls ks h3 (tm T sl) (hTX.below hb) i hi8 0 (.slice none 0 0) 0 (fun _ => ⟨0, 0, 0, 0⟩) kZ (JobsX.nil _ _ _))
  have HTM := Lib.hid (tm_upd T sl i 0 (.slice none 0 0) 0 (fun _ => ⟨0, 0, 0, 0⟩) kZ (.slice none 0 0))
  obtain ⟨⟨p1, n1, c1, p2, n2, c2, p3, n3, c3, rfl, rfl, rfl⟩, pk, ck, rfl⟩ := sl5 h
  obtain ⟨_, _, e, _, hc⟩ := hTX.tk
  simp only [Value.slice.injEq] at e
  obtain ⟨bk, ok, e2, _, _, d2, d3, d4, d5, d6, d7, _⟩ := hc i hi8
  have e3 : pk = some ⟨bk, ok, none⟩ := by rw [e.1]; exact e2
  subst e3
  have hbk : bk < w.heap.size := cell_lt d2
  dsimp only [tm] at d2 d3 d4 d5 d6 d7
  obtain ⟨t, hti⟩ : ∃ t, t = (T i).k := ⟨_, rfl⟩
  rw [← hti] at d2 d3 d4 d5 d6 d7 ⊢
  obtain ⟨kg, ko, kn, kd, kc, kt⟩ := t
  dsimp only at d2 d3 d4 d5 d6 d7
  have HXC := Lib.hid (fun W (hb : Below w.heap.size w W) => show _ ∧ _ ∧ _ ∧ _ ∧ _ ∧ _ from ⟨(hb.cell (p := ⟨bk, ok + i * 8 + 2, none⟩) hbk).trans d2, (hb.cell (p := ⟨bk, ok + i * 8 + 3, none⟩) hbk).trans d3, (hb.cell (p := ⟨bk, ok + i * 8 + 4, none⟩) hbk).trans d4, (hb.cell (p := ⟨bk, ok + i * 8 + 5, none⟩) hbk).trans d5, (hb.cell (p := ⟨bk, ok + i * 8 + 6, none⟩) hbk).trans d6, (hb.cell (p := ⟨bk, ok + i * 8 + 7, none⟩) hbk).trans d7⟩)
  obtain ⟨WA, hWA⟩ : ∃ WA, WA = ((w.alloc (.cells #[.int .i64 2, .slice p1 n1 c1, .slice p2 n2 c2, .slice p3 n3 c3, .slice (some ⟨bk, ok, none⟩) 8 ck] LT)).alloc (.cells #[.int .i64 0, .slice none 0 0, .slice none 0 0, .slice none 0 0, .slice none 0 0] LT)).alloc (.cells #[.int .i64 0, .int .i64 0, .int .i64 0, .int .i64 0, .int .i64 0, .int .i64 0] 59) := ⟨_, rfl⟩
  have HB := Lib.hid (show Below w.heap.size w WA ∧ WA.heap.size = w.heap.size + 3 from by rw [hWA]; exact ⟨(((Below.refl _ _).alloc (Nat.le_refl _) _).alloc (by simp) _).alloc (by simp; omega) _, by simp⟩)
  have HT := Lib.hid (show HasL WA w.heap.size 2 (.slice p1 n1 c1) (.slice p2 n2 c2) (.slice p3 n3 c3) (.slice (some ⟨bk, ok, none⟩) 8 ck) ∧ HasL WA (w.heap.size + 1) 0 (.slice none 0 0) (.slice none 0 0) (.slice none 0 0) (.slice none 0 0) ∧ HasA WA (w.heap.size + 1 + 1) kZ from by rw [hWA]; exact ⟨has_old (has_old (has_new _ _ _ rfl) _) _, has_old (has_new _ _ _ (by simp)) _, has_new _ _ _ (by simp)⟩)
  have HW := Lib.hid hWA
  have z0 : (0 : Int) ≤ (i : Int) := by omega
  have z1 : (i : Int) < 8 := by omega
  clear hWA h hg hX2 hX hD2 hk2 hi hTX hf hc e e2 hti d2 d3 d4 d5 d6 d7
  go_enter Tryz.func20, Tryz.ntmps20
  go_upto_region 1 with fail
  rw [← HW.out]
  obtain ⟨a0, a1, a2, a3, a4⟩ := HT.out.1.cells
  go_wp2_with fail
  refine (HFI.out _ HB.out.1).mono ?_
  rintro e w1 ⟨rfl, hb1⟩
  have hs1 := hb1.size
  have HB1 := Lib.hid (show Below w.heap.size w w1 ∧ w.heap.size + 3 ≤ w1.heap.size from ⟨bnext HB.out.1 hb1, by have := HB.out.2; omega⟩)
  have HK1 := Lib.hid (show HasL w1 w.heap.size 2 (.slice p1 n1 c1) (.slice p2 n2 c2) (.slice p3 n3 c3) (.slice (some ⟨bk, ok, none⟩) 8 ck) ∧ HasL w1 (w.heap.size + 1) 0 (.slice none 0 0) (.slice none 0 0) (.slice none 0 0) (.slice none 0 0) ∧ HasA w1 (w.heap.size + 1 + 1) kZ from ⟨HT.out.1.below hb1, HT.out.2.1.below hb1, HT.out.2.2.below hb1⟩)
  clear hb1 hs1 a0 a1 a2 a3 a4
  obtain ⟨a0, a1, a2, a3, a4⟩ := HK1.out.1.cells
  obtain ⟨d2, d3, d4, d5, d6, d7⟩ := HXC.out w1 HB1.out.1
  obtain ⟨W1, hW1⟩ : ∃ W1, W1 = w1.alloc (.cells #[.int .i64 kg, .int .i64 ko, .int .i64 kn, .int .i64 kd, .int .i64 kc, .int .i64 kt] 59) := ⟨_, rfl⟩
  have HB2 := Lib.hid (show Below w.heap.size w W1 ∧ W1.heap.size = w1.heap.size + 1 from by rw [hW1]; exact ⟨HB1.out.1.alloc HB1.out.1.size _, by simp⟩)
  have HK2 := Lib.hid (show HasL W1 w.heap.size 2 (.slice p1 n1 c1) (.slice p2 n2 c2) (.slice p3 n3 c3) (.slice (some ⟨bk, ok, none⟩) 8 ck) ∧ HasL W1 (w.heap.size + 1) 0 (.slice none 0 0) (.slice none 0 0) (.slice none 0 0) (.slice none 0 0) ∧ HasA W1 (w.heap.size + 1 + 1) kZ ∧ HasA W1 w1.heap.size ⟨kg, ko, kn, kd, kc, kt⟩ from by
    rw [hW1]; exact ⟨has_old HK1.out.1 _, has_old HK1.out.2.1 _, has_old HK1.out.2.2 _, hasA_new w1 ⟨kg, ko, kn, kd, kc, kt⟩⟩)
  have HW1 := Lib.hid hW1
  clear hW1
  go_upto_region 5 with fail
  rw [← HW1.out]
  clear a0 a1 a2 a3 a4 d2 d3 d4 d5 d6 d7
  obtain ⟨a0, a1, a2, a3, a4⟩ := HK2.out.1.cells
  go_wp2_with fail
  refine (HDR.out W1 HB2.out.1 (by have := HB1.out.2; have := HB2.out.2; omega)).mono ?_
  rintro e w2 ⟨gs2, ts2, ls2, rfl, hrt2, hb2⟩
  have hs2 := hb2.size
  have HB3 := Lib.hid (show Below w.heap.size w w2 ∧ w1.heap.size + 1 ≤ w2.heap.size from ⟨bnext HB2.out.1 hb2, by have := HB2.out.2; omega⟩)
  have HK3 := Lib.hid (show HasL w2 w.heap.size 2 (.slice p1 n1 c1) (.slice p2 n2 c2) (.slice p3 n3 c3) (.slice (some ⟨bk, ok, none⟩) 8 ck) ∧ HasL w2 (w.heap.size + 1) 0 (.slice none 0 0) (.slice none 0 0) (.slice none 0 0) (.slice none 0 0) ∧ HasA w2 (w.heap.size + 1 + 1) kZ ∧ HasA w2 w1.heap.size ⟨kg, ko, kn, kd, kc, kt⟩ from ⟨HK2.out.1.below hb2, HK2.out.2.1.below hb2, HK2.out.2.2.1.below hb2, HK2.out.2.2.2.below hb2⟩)
  have HR2 := Lib.hid hrt2
  have HS2 := Lib.hid hrt2.sl3
  obtain ⟨q1, m1, d1, q2, m2, d2, q3, m3, d3, rfl, rfl, rfl⟩ := hrt2.sl3
  clear hb2 hs2 hrt2 a0 a1 a2 a3 a4
  obtain ⟨a0, a1, a2, a3, a4⟩ := HK3.out.1.cells
  have fa := fun j => has_free HK3.out.1 j
  go_upto_region 6 with fail
  obtain ⟨W3, hW3⟩ : ∃ W3, W3 = (((w2.setCell ⟨w.heap.size, 0, none⟩ (.int .i64 2)).setCell ⟨w.heap.size, 1, none⟩ (.slice q1 m1 d1)).setCell ⟨w.heap.size, 2, none⟩ (.slice q2 m2 d2)).setCell ⟨w.heap.size, 3, none⟩ (.slice q3 m3 d3) := ⟨_, rfl⟩
  rw [← hW3]
  have HZ := Lib.hid (show w.heap.size + 3 ≤ w1.heap.size ∧ w1.heap.size + 1 ≤ w2.heap.size from ⟨HB1.out.2, HB3.out.2⟩)
  have HB4 := Lib.hid (show Below w.heap.size w W3 ∧ W3.heap.size = w2.heap.size from by rw [hW3]; exact ⟨below4 HB3.out.1 (Nat.le_refl _) _ _ _ _, by simp [World.setCell]⟩)
  have HK4 := Lib.hid (show HasL W3 w.heap.size 2 (.slice q1 m1 d1) (.slice q2 m2 d2) (.slice q3 m3 d3) (.slice (some ⟨bk, ok, none⟩) 8 ck) ∧ HasL W3 (w.heap.size + 1) 0 (.slice none 0 0) (.slice none 0 0) (.slice none 0 0) (.slice none 0 0) ∧ HasA W3 (w.heap.size + 1 + 1) kZ ∧ HasA W3 w1.heap.size ⟨kg, ko, kn, kd, kc, kt⟩ from by
    have hz := HZ.out
    rw [hW3]
    exact ⟨HasL.set4 HK3.out.1, has_other4 HK3.out.2.1 (by omega) _ _ _ _, has_other4 HK3.out.2.2.1 (by omega) _ _ _ _, has_other4 HK3.out.2.2.2 (by omega) _ _ _ _⟩)
  have HR3 := Lib.hid (show RT X2 W3 (A.dropAt i) (.slice q1 m1 d1) (.slice q2 m2 d2) (.slice q3 m3 d3) from by rw [hW3]; exact HR2.out.keeps (keeps4 (Keeps.refl X2 w2) HX2b.out.2.1 _ _ _ _))
  have HD := Lib.hid (fun W (hb : Below W3.heap.size W3 W) => show _ ∧ _ ∧ _ ∧ _ ∧ (∀ j, W.frozen? ⟨w.heap.size + 1, j, none⟩ = false) ∧ (∀ j, W.frozen? ⟨w.heap.size + 1 + 1, j, none⟩ = false) from ⟨HasL.cells (HK4.out.1.below hb), HasL.cells (HK4.out.2.1.below hb), HasA.cells (HK4.out.2.2.1.below hb), HasA.cells (HK4.out.2.2.2.below hb), fun j => has_free (HK4.out.2.1.below hb) j, fun j => has_free (HK4.out.2.2.1.below hb) j⟩)
  have HPU2 := Lib.hid (fun W (hb : Below W3.heap.size W3 W) => HPU.out W (bnext HB4.out.1 hb) (by have := hb.size; have := HB4.out.2; have := HZ.out; omega) (.slice q1 m1 d1) (.slice q2 m2 d2) (.slice q3 m3 d3) HS2.out)
  unfold PutP at HPU2
  have hz1 : ¬ w.heap.size + 1 = w1.heap.size := by have := HZ.out; omega
  have hz2 : ¬ w.heap.size + 1 + 1 = w1.heap.size := by have := HZ.out; omega
  have hz3 : ¬ w1.heap.size = w.heap.size + 1 := by have := HZ.out; omega
  have hz4 : ¬ w1.heap.size = w.heap.size + 1 + 1 := by have := HZ.out; omega
  clear hW3 a0 a1 a2 a3 a4 fa
  obtain ⟨a0, a1, a2, a3, a4⟩ := HK4.out.1.cells
  obtain ⟨y0, y1, y2, y3, y4⟩ := HK4.out.2.1.cells
  obtain ⟨v0, v1, v2, v3, v4, v5⟩ := HK4.out.2.2.1.cells
  obtain ⟨u0, u1, u2, u3, u4, u5⟩ := HK4.out.2.2.2.cells
  go_region_law (go_simp; go_at_call 50; refine (HPU2.out _ below_drewOne).mono ?_; rintro e wp ⟨ks5, rfl, htp, hqp⟩; have hq3 := bnext below_drewOne hqp; obtain ⟨pk5, ck5, rfl, _⟩ := id htp.tk; have HTP := Lib.hid htp; have HQ3 := Lib.hid hq3; obtain ⟨⟨a0, a1, a2, a3, a4⟩, ⟨y0, y1, y2, y3, y4⟩, ⟨v0, v1, v2, v3, v4, v5⟩, ⟨u0, u1, u2, u3, u4, u5⟩, fy, fv⟩ := HD.out _ hq3; clear htp hqp hq3)
  all_goals
    go_wp2_with fail
    refine bodyPost_ret (v := .tuple #[lv 2 (.slice q1 m1 d1) (.slice q2 m2 d2) (.slice q3 m3 d3) (.slice pk5 8 ck5), kV6 ⟨kg, ko, kn, kd, kc, kt⟩, .int .i64 0]) (by simp [results, Tryz.results20, go_sem, y0, y1, y2, y3, y4, v0, v1, v2, v3, v4, v5]) rfl ?_
    have hkp := keeps6s (keeps5 (Keeps.refl X2 wp) HX2b.out.2.2.1 (.int .i64 2) (.slice q1 m1 d1) (.slice q2 m2 d2) (.slice q3 m3 d3) (.slice pk5 8 ck5)) HX2b.out.2.2.2 (.int .i64 kg) (.int .i64 ko) (.int .i64 kn) (.int .i64 kd) (.int .i64 kc) (.int .i64 kt)
    exact ⟨_, _, _, _, rfl, DL.mono (X := X2) ⟨(HR3.out.below HQ3.out).keeps hkp, _, (TasksX.keeps (by rw [HTM.out]; exact HTP.out) hkp (fun _ k => k))⟩ (fun x _ hx => HX2b.out.1 x hx), below6 (below5 (bnext HB4.out.1 HQ3.out) (by omega) _ _ _ _ _) (by omega) _ _ _ _ _ _⟩
theorem rdrop13 (X : Nat → Prop) (A : Tab) (T : Nat → Tk) (hg : LGood A T) (gs ts ls ks : Value) (w : World) (h : DL X w A T gs ts ls ks) (hX : ∀ x, X x → x < w.heap.size) (x : Int) :
    Calls Tryz.prog 20 #[lv 2 gs ts ls ks, .int .i64 x] w (DropR X w (dropA A x) (dropT A T x) (dropK A T x) (dropN A x)) := by
  rcases drop_ways A T x with ⟨hf, e1, e2, e3, e4⟩ | ⟨i, hf, e1, e2, e3, e4⟩
  · rw [e1, e2, e3, e4]; exact rdrop_none13 X A T hg gs ts ls ks w h x hf
  · rw [e1, e2, e3, e4]; exact rdrop_some13 X A T hg gs ts ls ks w h hX x i hf
end Go.Proofs.YthbkinopgialmaaGreatDoor
/- The document's own leaf: Push; no condition but those that each row names. -/
namespace Go.Proofs.YthbkinopgialmaaGreatDoor
open Go.RowKit Tsk

/-- What Push answers. -/
def PushR (X : Nat → Prop) (w : World) (A' : Tab) (T' : Nat → Tk) (n : Int) (e : Ending) (w' : World) : Prop := ∃ gs ts ls ks, e = .returned (.tuple #[lv 2 gs ts ls ks, .int .i64 n]) ∧ DL X w' A' T' gs ts ls ks ∧ Below w.heap.size w w'
set_option maxHeartbeats 4000000 in
set_option maxRecDepth 100000 in
theorem rpush_none13 (X : Nat → Prop) (A : Tab) (T : Nat → Tk) (hg : LGood A T) (gs ts ls ks : Value) (w : World) (h : DL X w A T gs ts ls ks) (x : Int) (j : Jb) (now : Int) (hf : A.find x = none) :
    Calls Tryz.prog 22 #[lv 2 gs ts ls ks, .int .i64 x, jV j, .int .i64 now] w (PushR X w A T 20) := by
  have HDL := Lib.hid h
  have HFI := Lib.hid (fun W (hb : Below w.heap.size w W) => rfind_any X A hg.tab x gs ts ls W (h.rt.below hb))
  rw [hf, show optV none = -1 from rfl, hg.kind] at HFI
  obtain ⟨⟨p1, n1, c1, p2, n2, c2, p3, n3, c3, rfl, rfl, rfl⟩, pk, ck, rfl⟩ := sl5 h
  obtain ⟨jl, jc, ja, jd⟩ := j
  obtain ⟨WA, hWA⟩ : ∃ WA, WA = ((w.alloc (.cells #[.int .i64 2, .slice p1 n1 c1, .slice p2 n2 c2, .slice p3 n3 c3, .slice pk 8 ck] LT)).alloc (.cells #[.int .i64 jl, .int .i64 jc, .int .i64 ja, .int .i64 jd] JT)).alloc (.cells #[.int .i64 0, .slice none 0 0, .slice none 0 0, .slice none 0 0, .slice none 0 0] LT) := ⟨_, rfl⟩
  have HB := Lib.hid (show Below w.heap.size w WA from by rw [hWA]; exact (((Below.refl _ _).alloc (Nat.le_refl _) _).alloc (by simp) _).alloc (by simp; omega) _)
  have HT := Lib.hid (show HasL WA w.heap.size 2 (.slice p1 n1 c1) (.slice p2 n2 c2) (.slice p3 n3 c3) (.slice pk 8 ck) ∧ HasL WA (w.heap.size + 1 + 1) 0 (.slice none 0 0) (.slice none 0 0) (.slice none 0 0) (.slice none 0 0) from by rw [hWA]; exact ⟨has_old (has_old (has_new _ _ _ rfl) _) _, has_new _ _ _ (by simp)⟩)
  have HW := Lib.hid hWA
  clear hWA h hf hg
  go_enter Tryz.func22, Tryz.ntmps22
  go_upto_region 1 with fail
  rw [← HW.out]
  obtain ⟨a0, a1, a2, a3, a4⟩ := HT.out.1.cells
  go_wp2_with fail
  refine (HFI.out _ HB.out).mono ?_
  rintro e w1 ⟨rfl, hb1⟩
  have HB1 := Lib.hid (bnext HB.out hb1)
  have HT1 := Lib.hid (HT.out.1.below hb1)
  have HT2 := Lib.hid (HT.out.2.below hb1)
  clear a0 a1 a2 a3 a4 hb1
  obtain ⟨a0, a1, a2, a3, a4⟩ := HT1.out.cells
  obtain ⟨y0, y1, y2, y3, y4⟩ := HT2.out.cells
  have fr := fun j => has_free HT2.out j
  go_wp2_with fail
  refine bodyPost_ret (v := .tuple #[lv 2 (.slice p1 n1 c1) (.slice p2 n2 c2) (.slice p3 n3 c3) (.slice pk 8 ck), .int .i64 20]) (by simp [results, Tryz.results22, go_sem, y0, y1, y2, y3, y4]) rfl ?_
  have hbel := below5 HB1.out (g := w.heap.size + 1 + 1) (by omega) (.int .i64 2) (.slice p1 n1 c1) (.slice p2 n2 c2) (.slice p3 n3 c3) (.slice pk 8 ck)
  exact ⟨_, _, _, _, rfl, HDL.out.below hbel, hbel⟩
/-- Behind the call of titheref12.Push. -/
def PB (X2 : Nat → Prop) (w : World) (p1 p2 p3 pk : Value) (tp : Int) (tn : Nat) (tf : Nat → Jb) (k : Ac) (b : Nat) (wx : World) : Prop :=
  ∃ s2 c2, HasT wx b tp (.slice s2 tn c2) k ∧ JobsX X2 wx (.slice s2 tn c2) tn tf ∧ Below w.heap.size w wx ∧ HasL wx w.heap.size 2 p1 p2 p3 pk ∧ HasL wx (w.heap.size + 1 + 1) 0 (.slice none 0 0) (.slice none 0 0) (.slice none 0 0) (.slice none 0 0) ∧ w.heap.size + 3 ≤ b
theorem PB.a {X2 : Nat → Prop} {w W0 w2 : World} {p1 p2 p3 pk : Value} {tp : Int} {tn : Nat} {tf : Nat → Jb} {k : Ac} {s2 : Option Addr} {c2 : Nat} (hX : ∀ x, X2 x → x < w.heap.size + 3) (h0 : Below w.heap.size w W0) (hs : w.heap.size + 3 ≤ W0.heap.size) (l1 : HasL W0 w.heap.size 2 p1 p2 p3 pk) (l2 : HasL W0 (w.heap.size + 1 + 1) 0 (.slice none 0 0) (.slice none 0 0) (.slice none 0 0) (.slice none 0 0))
    (hq : Below W0.heap.size W0 w2) (ho : JobsO W0.heap.size w2 (.slice s2 tn c2) tn tf) (hn : tn ≤ 9223372036854775807) : PB X2 w p1 p2 p3 pk tp tn tf k w2.heap.size (w2.alloc (.cells #[.int .i64 tp, .slice s2 tn c2, .int .i64 k.g, .int .i64 k.o, .int .i64 k.n, .int .i64 k.d, .int .i64 k.c, .int .i64 k.t] KT)) := by
  have ha : Below w2.heap.size w2 (w2.alloc (.cells #[.int .i64 tp, .slice s2 tn c2, .int .i64 k.g, .int .i64 k.o, .int .i64 k.n, .int .i64 k.d, .int .i64 k.c, .int .i64 k.t] KT)) := (Below.refl _ _).alloc (Nat.le_refl _) _
  refine ⟨s2, c2, hasT_new w2 tp _ k, (JobsX.own ho hn (fun x hx => by have := hX x hx; omega)).below ha, bnext (bnext h0 hq) ha, has_old (l1.below hq) _, has_old (l2.below hq) _, ?_⟩
  have := hq.size
  omega
theorem PB.b {X2 : Nat → Prop} {w W0 w2 : World} {p1 p2 p3 pk : Value} {tp tp0 : Int} {tn : Nat} {tf : Nat → Jb} {k k0 : Ac} {s0 : Value} {s2 : Option Addr} {c2 b : Nat} (hX : ∀ x, X2 x → x < w.heap.size + 3) (h0 : Below w.heap.size w W0) (hs : w.heap.size + 3 ≤ b) (hbl : b < W0.heap.size) (l1 : HasL W0 w.heap.size 2 p1 p2 p3 pk) (l2 : HasL W0 (w.heap.size + 1 + 1) 0 (.slice none 0 0) (.slice none 0 0) (.slice none 0 0) (.slice none 0 0))
    (hq : Below W0.heap.size W0 w2) (hT : HasT w2 b tp0 s0 k0) (ho : JobsO W0.heap.size w2 (.slice s2 tn c2) tn tf) (hn : tn ≤ 9223372036854775807) : PB X2 w p1 p2 p3 pk tp tn tf k b ((((((((w2.setCell ⟨b, 0, none⟩ (.int .i64 tp)).setCell ⟨b, 1, none⟩ (.slice s2 tn c2)).setCell ⟨b, 2, none⟩ (.int .i64 k.g)).setCell ⟨b, 3, none⟩ (.int .i64 k.o)).setCell ⟨b, 4, none⟩ (.int .i64 k.n)).setCell ⟨b, 5, none⟩ (.int .i64 k.d)).setCell ⟨b, 6, none⟩ (.int .i64 k.c)).setCell ⟨b, 7, none⟩ (.int .i64 k.t)) := by
  have hk : ∀ {g : Nat} {o : Obj}, g < b → Has w2 g o → Has ((((((((w2.setCell ⟨b, 0, none⟩ (.int .i64 tp)).setCell ⟨b, 1, none⟩ (.slice s2 tn c2)).setCell ⟨b, 2, none⟩ (.int .i64 k.g)).setCell ⟨b, 3, none⟩ (.int .i64 k.o)).setCell ⟨b, 4, none⟩ (.int .i64 k.n)).setCell ⟨b, 5, none⟩ (.int .i64 k.d)).setCell ⟨b, 6, none⟩ (.int .i64 k.c)).setCell ⟨b, 7, none⟩ (.int .i64 k.t)) g o := fun hg h => by
    iterate 8 refine has_other ?_ _ _ (by show b ≠ _; omega)
    exact h
  exact ⟨s2, c2, HasT.set8 hT, JobsX.own (own_low8 ho hbl _ _ _ _ _ _ _ _) hn (fun x hx => by have := hX x hx; omega), below8 (bnext h0 hq) (by omega) _ _ _ _ _ _ _ _, hk (by omega) (l1.below hq), hk (by omega) (l2.below hq), hs⟩
set_option maxHeartbeats 8000000 in
set_option maxRecDepth 100000 in
theorem rpush_some13 (X : Nat → Prop) (A : Tab) (T : Nat → Tk) (hg : LGood A T) (gs ts ls ks : Value) (w : World) (h : DL X w A T gs ts ls ks) (hX : ∀ x, X x → x < w.heap.size) (x : Int) (j : Jb) (now : Int) (i : Nat) (hf : A.find x = some i) :
    Calls Tryz.prog 22 #[lv 2 gs ts ls ks, .int .i64 x, jV j, .int .i64 now] w (PushR X w A (if pushE (T i).p (T i).n (T i).f (T i).k j now = 0 then upd T i (tkPush (T i) sN j now) else T) (pushE (T i).p (T i).n (T i).f (T i).k j now)) := by
  have HDL := Lib.hid h
  obtain ⟨X2, hX2⟩ : ∃ X2 : Nat → Prop, X2 = fun x => X x ∨ x = w.heap.size ∨ x = w.heap.size + 1 ∨ x = w.heap.size + 1 + 1 := ⟨_, rfl⟩
  have hD2 : DL X2 w A T gs ts ls ks := h.mono (fun x hx hy => by rw [hX2] at hy; rcases hy with hy | hy | hy | hy; exact hy; omega; omega; omega)
  have HX2 := Lib.hid (show ∀ x, X2 x → x < w.heap.size + 3 from fun x hx => by rw [hX2] at hx; rcases hx with hx | hx | hx | hx; have := hX x hx; omega; omega; omega; omega)
  have HX2b := Lib.hid (show (∀ x, X x → X2 x) ∧ X2 w.heap.size ∧ X2 (w.heap.size + 1 + 1) from by rw [hX2]; exact ⟨fun x hx => .inl hx, .inr (.inl rfl), .inr (.inr (.inr rfl))⟩)
  have HFI := Lib.hid (fun W (hb : Below w.heap.size w W) => rfind_any X A hg.tab x gs ts ls W (h.rt.below hb))
  rw [hf, show optV (some i) = (i : Int) from rfl, hg.kind] at HFI
  obtain ⟨hi0, _, _⟩ := find_inv hf
  have hi : i < 8 := by have := hg.len; omega
  obtain ⟨sl, hTX⟩ := hD2.tk
  have HRT := Lib.hid hD2.rt
  have HS3 := Lib.hid h.rt.sl3
  have HTMU := Lib.hid (fun p s n f k => tm_upd T sl i p s n f k sN)
  have HPU := Lib.hid (fun W (hb : Below w.heap.size w W) (hs : w.heap.size + 3 ≤ W.heap.size) p s n f k hj => rput X2 W (fun x hx => Nat.lt_of_lt_of_le (HX2.out x hx) hs) 2 gs ts ls ks HS3.out (tm T sl) (hTX.below hb) i hi p s n f k hj)
  have hok := hg.ok i
  obtain ⟨⟨p1, n1, c1, p2, n2, c2, p3, n3, c3, rfl, rfl, rfl⟩, pk, ck, rfl⟩ := sl5 h
  obtain ⟨_, _, e, _, hc⟩ := hTX.tk
  simp only [Value.slice.injEq] at e
  obtain ⟨bk, ok, e2, d0, d1, d2, d3, d4, d5, d6, d7, hJ0⟩ := hc i hi
  have e3 : pk = some ⟨bk, ok, none⟩ := by rw [e.1]; exact e2
  subst e3
  have hbk : bk < w.heap.size := cell_lt d0
  have HJ := Lib.hid hJ0
  obtain ⟨q0, cq0, hq0, _⟩ := hJ0
  dsimp only [tm] at d0 d1 d2 d3 d4 d5 d6 d7 hq0 HJ
  rw [hq0] at d1 HJ
  obtain ⟨t, hti⟩ : ∃ t, t = T i := ⟨_, rfl⟩
  rw [← hti] at d0 d1 d2 d3 d4 d5 d6 d7 HJ hok ⊢
  obtain ⟨tp, ts', tn, tf, ⟨kg, ko, kn, kd, kc, kt⟩⟩ := t
  obtain ⟨jl, jc, ja, jd⟩ := j
  dsimp only at d0 d1 d2 d3 d4 d5 d6 d7 HJ ⊢
  have hn8 : tn ≤ 8 := hok.2.1
  have HN8 := Lib.hid hn8
  have HPS := Lib.hid (fun W (hb : Below w.heap.size w W) => rpush_any tp (.slice q0 tn cq0) tn tf ⟨kg, ko, kn, kd, kc, kt⟩ ⟨jl, jc, ja, jd⟩ now W (HJ.out.below hb))
  unfold TaskO at HPS
  unfold tkPush
  dsimp only
  obtain ⟨E, hEE⟩ : ∃ E, E = pushE tp tn tf ⟨kg, ko, kn, kd, kc, kt⟩ ⟨jl, jc, ja, jd⟩ now := ⟨_, rfl⟩
  rw [← hEE] at HPS ⊢
  obtain ⟨tp', htp'⟩ : ∃ tp', tp' = if E = 0 then tp else 0 := ⟨_, rfl⟩
  obtain ⟨tn', htn'⟩ : ∃ tn', tn' = if E = 0 then tn + 1 else 0 := ⟨_, rfl⟩
  obtain ⟨kk', hkk'⟩ : ∃ kk', kk' = if E = 0 then (⟨kg, ko, kn, kd, kc, kt⟩ : Ac) else kZ := ⟨_, rfl⟩
  rw [← htp', ← htn', ← hkk'] at HPS
  have HEQ := Lib.hid (show E = 0 → tp' = tp ∧ tn' = tn + 1 ∧ kk' = ⟨kg, ko, kn, kd, kc, kt⟩ from fun h0 => ⟨by rw [htp', if_pos h0], by rw [htn', if_pos h0], by rw [hkk', if_pos h0]⟩)
  have HN9 := Lib.hid (show tn' ≤ 9 from by rw [htn']; split <;> omega)
  clear htp' htn' hkk' hEE
  obtain ⟨rg, ro, rnn, rd, rc, rt⟩ := kk'
  obtain ⟨rf, hrf⟩ : ∃ rf, rf = upd tf tn ⟨jl, jc, now, jd⟩ := ⟨_, rfl⟩
  rw [← hrf] at HPS ⊢
  clear hrf
  have HXC := Lib.hid (fun W (hb : Below w.heap.size w W) => show _ ∧ _ ∧ _ ∧ _ ∧ _ ∧ _ ∧ _ ∧ _ from ⟨(hb.cell (p := ⟨bk, ok + i * 8, none⟩) hbk).trans d0, (hb.cell (p := ⟨bk, ok + i * 8 + 1, none⟩) hbk).trans d1, (hb.cell (p := ⟨bk, ok + i * 8 + 2, none⟩) hbk).trans d2, (hb.cell (p := ⟨bk, ok + i * 8 + 3, none⟩) hbk).trans d3, (hb.cell (p := ⟨bk, ok + i * 8 + 4, none⟩) hbk).trans d4, (hb.cell (p := ⟨bk, ok + i * 8 + 5, none⟩) hbk).trans d5, (hb.cell (p := ⟨bk, ok + i * 8 + 6, none⟩) hbk).trans d6, (hb.cell (p := ⟨bk, ok + i * 8 + 7, none⟩) hbk).trans d7⟩)
  obtain ⟨WA, hWA⟩ : ∃ WA, WA = ((w.alloc (.cells #[.int .i64 2, .slice p1 n1 c1, .slice p2 n2 c2, .slice p3 n3 c3, .slice (some ⟨bk, ok, none⟩) 8 ck] LT)).alloc (.cells #[.int .i64 jl, .int .i64 jc, .int .i64 ja, .int .i64 jd] JT)).alloc (.cells #[.int .i64 0, .slice none 0 0, .slice none 0 0, .slice none 0 0, .slice none 0 0] LT) := ⟨_, rfl⟩
  have HB := Lib.hid (show Below w.heap.size w WA ∧ WA.heap.size = w.heap.size + 3 from by rw [hWA]; exact ⟨(((Below.refl _ _).alloc (Nat.le_refl _) _).alloc (by simp) _).alloc (by simp; omega) _, by simp⟩)
  have HT := Lib.hid (show HasL WA w.heap.size 2 (.slice p1 n1 c1) (.slice p2 n2 c2) (.slice p3 n3 c3) (.slice (some ⟨bk, ok, none⟩) 8 ck) ∧ HasL WA (w.heap.size + 1 + 1) 0 (.slice none 0 0) (.slice none 0 0) (.slice none 0 0) (.slice none 0 0) ∧ HasJ WA (w.heap.size + 1) ⟨jl, jc, ja, jd⟩ from by rw [hWA]; exact ⟨has_old (has_old (has_new _ _ _ rfl) _) _, has_new _ _ _ (by simp), has_old (has_new _ _ _ (by simp)) _⟩)
  have HW := Lib.hid hWA
  have z0 : (0 : Int) ≤ (i : Int) := by omega
  have z1 : (i : Int) < 8 := by omega
  have z2 : decide ((i : Int) < 0) = false := decide_eq_false (by omega)
  clear hWA h hg hX2 hX hD2 hTX hc e e2 hti d0 d1 d2 d3 d4 d5 d6 d7 hi hi0 hf hq0 hok hbk hn8
  go_enter Tryz.func22, Tryz.ntmps22
  go_upto_region 1 with fail
  rw [← HW.out]
  obtain ⟨a0, a1, a2, a3, a4⟩ := HT.out.1.cells
  go_wp2_with fail
  refine (HFI.out _ HB.out.1).mono ?_
  rintro e w1 ⟨rfl, hb1⟩
  have hs1 := hb1.size
  have HB1 := Lib.hid (show Below w.heap.size w w1 ∧ w.heap.size + 3 ≤ w1.heap.size from ⟨bnext HB.out.1 hb1, by have := HB.out.2; omega⟩)
  have HK1 := Lib.hid (show HasL w1 w.heap.size 2 (.slice p1 n1 c1) (.slice p2 n2 c2) (.slice p3 n3 c3) (.slice (some ⟨bk, ok, none⟩) 8 ck) ∧ HasL w1 (w.heap.size + 1 + 1) 0 (.slice none 0 0) (.slice none 0 0) (.slice none 0 0) (.slice none 0 0) ∧ HasJ w1 (w.heap.size + 1) ⟨jl, jc, ja, jd⟩ from ⟨HT.out.1.below hb1, HT.out.2.1.below hb1, HT.out.2.2.below hb1⟩)
  clear hb1 hs1 a0 a1 a2 a3 a4
  obtain ⟨a0, a1, a2, a3, a4⟩ := HK1.out.1.cells
  obtain ⟨j0, j1, j2, j3⟩ := HK1.out.2.2.cells
  obtain ⟨d0, d1, d2, d3, d4, d5, d6, d7⟩ := HXC.out w1 HB1.out.1
  have hlL : w.heap.size < w1.heap.size := by have := HB1.out.2; omega
  have hlJ : w.heap.size + 1 < w1.heap.size := by have := HB1.out.2; omega
  have hlK : bk < w1.heap.size := cell_lt d0
  go_upto_region 4 with fail
  go_cut [11, 12] (fun tv ev wx => ∃ b, tv = .pointer (some ⟨b, 0, none⟩) ∧ ev = .int .i64 E ∧ Hid (PB X2 w (.slice p1 n1 c1) (.slice p2 n2 c2) (.slice p3 n3 c3) (.slice (some ⟨bk, ok, none⟩) 8 ck) tp' tn' rf ⟨rg, ro, rnn, rd, rc, rt⟩ b wx))
  case first =>
    go_region_law (first
      | (go_simp; go_at_call 56; refine (HPS.out w1.drew HB1.out.1.drew).mono ?_; rintro e w2 ⟨xx, rfl, s2, c2', rfl, ho, hb2⟩; have HO := Lib.hid ho; have HQ := Lib.hid hb2; clear ho hb2)
      | (go_simp; go_at_call 56; refine (HPS.out _ (HB1.out.1.alloc HB1.out.1.size (.cells #[.int .i64 0, .slice none 0 0, .int .i64 0, .int .i64 0, .int .i64 0, .int .i64 0, .int .i64 0, .int .i64 0] KT)).drew).mono ?_; rintro e w2 ⟨xx, rfl, s2, c2', rfl, ho, hb2⟩; have HTX := Lib.hid (HasT.below (has_drew (hasT_new w1 0 (.slice none 0 0) kZ)) hb2); obtain ⟨x0, x1, x2, x3, x4, x5, x6, x7⟩ := HTX.out.cells; have fx := fun j => has_free HTX.out j; have HO := Lib.hid ho; have HQ := Lib.hid hb2; clear ho hb2))
    all_goals
      go_wp2_with fail
      go_meet
      refine ⟨_, rfl, rfl, Lib.hid ?_⟩
      have hB1 := HB1.out
      have hn9 : tn' ≤ 9223372036854775807 := by have := HN9.out; omega
      have hs0 : w.heap.size + 3 ≤ w1.drew.heap.size := hB1.2
      have hbl0 : w1.heap.size < (w1.alloc (.cells #[.int .i64 0, .slice none 0 0, .int .i64 0, .int .i64 0, .int .i64 0, .int .i64 0, .int .i64 0, .int .i64 0] KT)).drew.heap.size := by simp [World.drew]
      first
        | (with_reducible refine PB.a (k := ⟨rg, ro, rnn, rd, rc, rt⟩) (W0 := w1.drew) HX2.out ?_ hs0 ?_ ?_ HQ.out HO.out hn9)
          · exact hB1.1.drew
          · exact HK1.out.1
          · exact HK1.out.2.1
        | (with_reducible refine PB.b (k := ⟨rg, ro, rnn, rd, rc, rt⟩) (W0 := (w1.alloc (.cells #[.int .i64 0, .slice none 0 0, .int .i64 0, .int .i64 0, .int .i64 0, .int .i64 0, .int .i64 0, .int .i64 0] KT)).drew) HX2.out ?_ hB1.2 hbl0 ?_ ?_ HQ.out HTX.out HO.out hn9)
          · exact (hB1.1.alloc hB1.1.size _).drew
          · exact has_drew (has_old HK1.out.1 _)
          · exact has_drew (has_old HK1.out.2.1 _)
  case rest =>
    obtain ⟨b, rfl, rfl, HPB⟩ := hcut
    obtain ⟨s2, cz2, hT, hJ, hB, hL1, hL2, hb⟩ := HPB.out
    have HTT := Lib.hid hT
    have HJJ := Lib.hid hJ
    have HBB := Lib.hid hB
    have HL1 := Lib.hid hL1
    have HL2 := Lib.hid hL2
    have HBL := Lib.hid hb
    clear hT hJ hB hL1 hL2 hb a0 a1 a2 a3 a4 j0 j1 j2 j3 d0 d1 d2 d3 d4 d5 d6 d7 hlL hlJ hlK
    obtain ⟨a0, a1, a2, a3, a4⟩ := HL1.out.cells
    obtain ⟨y0, y1, y2, y3, y4⟩ := HL2.out.cells
    have fr := fun j => has_free HL2.out j
    by_cases hE : E = 0
    · obtain ⟨e1, e2, e3⟩ := HEQ.out hE
      cases e3
      subst e1 e2 hE
      obtain ⟨x0, x1, x2, x3, x4, x5, x6, x7⟩ := HTT.out.cells
      go_wp2_with fail
      refine (HPU.out _ HBB.out (by have := HBL.out; have := has_lt HTT.out; omega) _ _ _ _ ⟨kg, ko, kn, kd, kc, kt⟩ HJJ.out).mono ?_
      rintro e wp ⟨ks5, rfl, htp, hqp⟩
      obtain ⟨pk5, ck5, rfl, _⟩ := id htp.tk
      have HTP := Lib.hid htp
      have HQ3 := Lib.hid hqp
      have HL3 := Lib.hid (HL2.out.below hqp)
      have HL4 := Lib.hid (HL1.out.below hqp)
      clear htp hqp a0 a1 a2 a3 a4 y0 y1 y2 y3 y4 fr x0 x1 x2 x3 x4 x5 x6 x7
      obtain ⟨y0, y1, y2, y3, y4⟩ := HL3.out.cells
      have fr := fun j => has_free HL3.out j
      go_wp2_with fail
      refine bodyPost_ret (v := .tuple #[lv 2 (.slice p1 n1 c1) (.slice p2 n2 c2) (.slice p3 n3 c3) (.slice pk5 8 ck5), .int .i64 0]) (by simp [results, Tryz.results22, go_sem, y0, y1, y2, y3, y4]) rfl ?_
      have hkp := keeps5 (Keeps.refl X2 wp) HX2b.out.2.2 (.int .i64 2) (.slice p1 n1 c1) (.slice p2 n2 c2) (.slice p3 n3 c3) (.slice pk5 8 ck5)
      exact ⟨_, _, _, _, rfl, DL.mono (X := X2) ⟨((HRT.out.below HBB.out).below HQ3.out).keeps hkp, _, (TasksX.keeps (by rw [HTMU.out]; exact HTP.out) hkp (fun _ k => k))⟩ (fun x _ hx => HX2b.out.1 x hx), below5 (bnext HBB.out HQ3.out) (by omega) _ _ _ _ _⟩
    · have g1 : (E != 0) = true := by simpa using hE
      have HEN := Lib.hid hE
      go_wp2_with fail
      refine bodyPost_ret (v := .tuple #[lv 2 (.slice p1 n1 c1) (.slice p2 n2 c2) (.slice p3 n3 c3) (.slice (some ⟨bk, ok, none⟩) 8 ck), .int .i64 E]) (by simp [results, Tryz.results22, go_sem, y0, y1, y2, y3, y4]) rfl ?_
      have hbel := below5 HBB.out (g := w.heap.size + 1 + 1) (by omega) (.int .i64 2) (.slice p1 n1 c1) (.slice p2 n2 c2) (.slice p3 n3 c3) (.slice (some ⟨bk, ok, none⟩) 8 ck)
      exact ⟨_, _, _, _, rfl, HDL.out.below hbel, hbel⟩
theorem rpush13 (X : Nat → Prop) (A : Tab) (T : Nat → Tk) (hg : LGood A T) (gs ts ls ks : Value) (w : World) (h : DL X w A T gs ts ls ks) (hX : ∀ x, X x → x < w.heap.size) (x : Int) (j : Jb) (now : Int) :
    Calls Tryz.prog 22 #[lv 2 gs ts ls ks, .int .i64 x, jV j, .int .i64 now] w (PushR X w A (pushT A T x j now) (pushN A T x j now)) := by
  cases hf : A.find x with
  | none =>
    rw [show pushN A T x j now = 20 by simp [pushN, hf], show pushT A T x j now = T by simp [pushT, hf]]
    exact rpush_none13 X A T hg gs ts ls ks w h x j now hf
  | some i =>
    rw [show pushN A T x j now = pushE (T i).p (T i).n (T i).f (T i).k j now by simp [pushN, hf], show pushT A T x j now = if pushE (T i).p (T i).n (T i).f (T i).k j now = 0 then upd T i (tkPush (T i) sN j now) else T by simp [pushT, hf]]
    exact rpush_some13 X A T hg gs ts ls ks w h hX x j now i hf
end Go.Proofs.YthbkinopgialmaaGreatDoor
/- The law's own sameTask; no condition but those that each row names. -/
namespace Go.Proofs.YthbkinopgialmaaGreatDoor
open Go.RowKit Tsk

/-- Are two tasks alike? -/
def sameT (p : Int) (n : Nat) (f : Nat → Jb) (k : Ac) (p' : Int) (n' : Nat) (f' : Nat → Jb) (k' : Ac) : Prop := p = p' ∧ k = k' ∧ n = n' ∧ ∀ i, i < n → f i = f' i
theorem neq_ac {g o m d c t g' o' m' d' c' t' : Int} (h : ¬ (⟨g, o, m, d, c, t⟩ : Ac) = ⟨g', o', m', d', c', t'⟩) : ¬ (g = g' ∧ o = o' ∧ m = m' ∧ d = d' ∧ c = c' ∧ t = t') := fun ⟨h1, h2, h3, h4, h5, h6⟩ => h (by rw [h1, h2, h3, h4, h5, h6])
theorem neq_jb {l c a d l' c' a' d' : Int} (h : ¬ (⟨l, c, a, d⟩ : Jb) = ⟨l', c', a', d'⟩) : ¬ (l = l' ∧ c = c' ∧ a = a' ∧ d = d') := fun ⟨h1, h2, h3, h4⟩ => h (by rw [h1, h2, h3, h4])
set_option maxHeartbeats 2000000 in
theorem tsame_acc (p : Int) (q q' : Option Addr) (n n' cap cap' : Nat) (k k' : Ac) (w : World) (hk : ¬ k = k') : Calls Tryz.prog 27 #[tV p (.slice q n cap) k, tV p (.slice q' n' cap') k'] w fun e w' => e = .returned (.bool false) ∧ Below w.heap.size w w' := by
  obtain ⟨kg, ko, kn, kd, kc, kt⟩ := k
  obtain ⟨kg', ko', kn', kd', kc', kt'⟩ := k'
  have hk2 := neq_ac hk
  go_enter Tryz.func27, Tryz.ntmps27
  go_wp2_with fail
  all_goals (go_ret; exact ⟨rfl, (by repeat (first | exact Below.refl _ _ | (with_reducible assumption) | refine Below.drew ?_ | (refine Below.alloc ?_ (by first | exact Nat.le_refl _ | omega | (simp; done) | (simp; omega)) _) | (refine Below.setCell ?_ (by first | omega | (simp; done) | (simp; omega)) _)))⟩)
theorem tsame_prio (p p' : Int) (q q' : Option Addr) (n n' cap cap' : Nat) (k k' : Ac) (w : World) (hp : ¬ p = p') : Calls Tryz.prog 27 #[tV p (.slice q n cap) k, tV p' (.slice q' n' cap') k'] w fun e w' => e = .returned (.bool false) ∧ Below w.heap.size w w' := by
  obtain ⟨kg, ko, kn, kd, kc, kt⟩ := k
  obtain ⟨kg', ko', kn', kd', kc', kt'⟩ := k'
  have hp2 : (p != p') = true := by simpa using hp
  clear hp
  go_enter Tryz.func27, Tryz.ntmps27
  go_wp2_with fail
  go_ret
  exact ⟨rfl, (by repeat (first | exact Below.refl _ _ | (with_reducible assumption) | refine Below.drew ?_ | (refine Below.alloc ?_ (by first | exact Nat.le_refl _ | omega | (simp; done) | (simp; omega)) _) | (refine Below.setCell ?_ (by first | omega | (simp; done) | (simp; omega)) _)))⟩
theorem tsame_len (p : Int) (q q' : Option Addr) (n n' cap cap' : Nat) (k : Ac) (w : World) (hn : ¬ n = n') : Calls Tryz.prog 27 #[tV p (.slice q n cap) k, tV p (.slice q' n' cap') k] w fun e w' => e = .returned (.bool false) ∧ Below w.heap.size w w' := by
  obtain ⟨kg, ko, kn, kd, kc, kt⟩ := k
  have hp2 : ((n : Int) != (n' : Int)) = true := by simp; omega
  have hp3 : (n != n') = true := by simpa using hn
  clear hn
  go_enter Tryz.func27, Tryz.ntmps27
  go_wp2_with fail
  go_ret
  exact ⟨rfl, (by repeat (first | exact Below.refl _ _ | (with_reducible assumption) | refine Below.drew ?_ | (refine Below.alloc ?_ (by first | exact Nat.le_refl _ | omega | (simp; done) | (simp; omega)) _) | (refine Below.setCell ?_ (by first | omega | (simp; done) | (simp; omega)) _)))⟩
set_option maxHeartbeats 2000000 in
theorem tsame_jobs (p : Int) (s s' : Value) (n : Nat) (f f' : Nat → Jb) (k : Ac) (w : World) (h : Jobs w s n f) (h' : Jobs w s' n f') : Calls Tryz.prog 27 #[tV p s k, tV p s' k] w fun e w' => e = .returned (.bool (decide (∀ i, i < n → f i = f' i))) ∧ Below w.heap.size w w' := by
  have HJ := Lib.hid h
  have HJ' := Lib.hid h'
  obtain ⟨q, cap, rfl, hnl, _⟩ := h
  obtain ⟨q', cap', rfl, _, _⟩ := h'
  obtain ⟨WA, hWA⟩ : ∃ WA, WA = (w.alloc (.cells #[.int .i64 p, .slice q n cap, .int .i64 k.g, .int .i64 k.o, .int .i64 k.n, .int .i64 k.d, .int .i64 k.c, .int .i64 k.t] KT)).alloc (.cells #[.int .i64 p, .slice q' n cap', .int .i64 k.g, .int .i64 k.o, .int .i64 k.n, .int .i64 k.d, .int .i64 k.c, .int .i64 k.t] KT) := ⟨_, rfl⟩
  have HB := Lib.hid (show Below w.heap.size w WA from by rw [hWA]; exact ((Below.refl _ _).alloc (Nat.le_refl _) _).alloc (by simp) _)
  have HT := Lib.hid (show HasT WA w.heap.size p (.slice q n cap) k ∧ HasT WA (w.heap.size + 1) p (.slice q' n cap') k from by rw [hWA]; exact ⟨has_old (has_new w _ _ rfl) _, has_new _ _ _ (by simp)⟩)
  have HW := Lib.hid hWA
  obtain ⟨kg, ko, kn, kd, kc, kt⟩ := k
  clear hWA
  go_enter Tryz.func27, Tryz.ntmps27
  go_wp2_with fail
  rw [← HW.out]
  go_loopw [5] (fun iv wr => ∃ i : Nat, iv = .int .i64 i ∧ i ≤ n ∧ Hid (∀ j, j < i → f j = f' j) ∧ Hid (Below WA.heap.size WA wr)) (fun iv _ => n - (intOf iv).toNat)
  case atStart => exact ⟨0, rfl, Nat.zero_le _, Lib.hid (fun j hj => by omega), Lib.hid (Below.refl _ _)⟩
  case round =>
    obtain ⟨i, rfl, hi, HE, HBr⟩ := hrel
    obtain ⟨_, x1, _⟩ := (HT.out.1.below HBr.out).cells
    obtain ⟨_, y1, _⟩ := (HT.out.2.below HBr.out).cells
    have HBw := Lib.hid (bnext HB.out HBr.out)
    by_cases hin : i < n
    · have hin' : (i : Int) < (n : Int) := by omega
      obtain ⟨q0, cap0, e, _, hcl⟩ := HJ.out.below HBw.out
      cases e
      obtain ⟨b, off, rfl, d0, d1, d2, d3⟩ := hcl i hin
      obtain ⟨q1, cap1, e, _, hcl'⟩ := HJ'.out.below HBw.out
      cases e
      obtain ⟨b', off', rfl, e0, e1, e2, e3⟩ := hcl' i hin
      clear hcl hcl'
      by_cases heq : f i = f' i
      · have HE2 := Lib.hid (show ∀ j, j < i + 1 → f j = f' j from fun j hj => by
          rcases Nat.lt_succ_iff_lt_or_eq.1 hj with h | h
          · exact HE.out j h
          · rw [h]; exact heq)
        rw [heq] at d0 d1 d2 d3
        generalize f' i = jb at *
        obtain ⟨l, c, a, d⟩ := jb
        dsimp only at d0 d1 d2 d3 e0 e1 e2 e3
        clear heq
        go_wp2_with fail
        go_quiet (fail)
        have HBq := Lib.hid (below_drewN HBr.out nq)
        go_wp2_with fail
        go_roundw
        case rel => exact ⟨i + 1, by go_num, by omega, HE2, HBq⟩
        case measure => simp [intOf]; omega
      · have HF := Lib.hid (show decide (∀ i, i < n → f i = f' i) = false from decide_eq_false (fun h => heq (h i hin)))
        generalize f i = jb at *
        generalize f' i = jb' at *
        obtain ⟨l, c, a, d⟩ := jb
        obtain ⟨l', c', a', d'⟩ := jb'
        dsimp only at d0 d1 d2 d3 e0 e1 e2 e3
        have hne := neq_jb heq
        clear heq
        by_cases hl : l = l'
        · subst hl
          by_cases hc : c = c'
          · subst hc
            by_cases ha : a = a'
            · subst ha
              have hd : ¬ d = d' := fun h => hne ⟨rfl, rfl, rfl, h⟩
              have z : (d == d') = false := by simpa using hd
              clear hne hd
              go_wp2_with fail
              go_quiet (fail)
              have HBq := Lib.hid (below_drewN HBw.out nq)
              go_wp2_with fail
              go_ret
              exact ⟨ret_bool HF.out.symm, HBq.out⟩
            · have z : (a == a') = false := by simpa using ha
              clear hne ha
              go_wp2_with fail
              go_quiet (fail)
              have HBq := Lib.hid (below_drewN HBw.out nq)
              go_wp2_with fail
              go_ret
              exact ⟨ret_bool HF.out.symm, HBq.out⟩
          · have z : (c == c') = false := by simpa using hc
            clear hne hc
            go_wp2_with fail
            go_quiet (fail)
            have HBq := Lib.hid (below_drewN HBw.out nq)
            go_wp2_with fail
            go_ret
            exact ⟨ret_bool HF.out.symm, HBq.out⟩
        · have z : (l == l') = false := by simpa using hl
          clear hne hl
          go_wp2_with fail
          go_quiet (fail)
          have HBq := Lib.hid (below_drewN HBw.out nq)
          go_wp2_with fail
          go_ret
          exact ⟨ret_bool HF.out.symm, HBq.out⟩
    · have hg3 : decide (i < n) = false := decide_eq_false hin
      obtain rfl : i = n := by omega
      have HF := Lib.hid (show decide (∀ j, j < i → f j = f' j) = true from decide_eq_true HE.out)
      clear hin
      go_wp2_with fail
      go_ret
      exact ⟨ret_bool HF.out.symm, HBw.out⟩
instance (p : Int) (n : Nat) (f : Nat → Jb) (k : Ac) (p' : Int) (n' : Nat) (f' : Nat → Jb) (k' : Ac) : Decidable (sameT p n f k p' n' f' k') := by unfold sameT; infer_instance
/-- Same, every way. -/
theorem tsame_any (p : Int) (s : Value) (n : Nat) (f : Nat → Jb) (k : Ac) (p' : Int) (s' : Value) (n' : Nat) (f' : Nat → Jb) (k' : Ac) (w : World) (h : Jobs w s n f) (h' : Jobs w s' n' f') :
    Calls Tryz.prog 27 #[tV p s k, tV p' s' k'] w fun e w' => e = .returned (.bool (decide (sameT p n f k p' n' f' k'))) ∧ Below w.heap.size w w' := by
  by_cases hp : p = p'
  · subst hp
    by_cases hk : k = k'
    · subst hk
      by_cases hn : n = n'
      · subst hn
        have e : decide (sameT p n f k p n f' k) = decide (∀ i, i < n → f i = f' i) := decide_eq_decide.2 ⟨fun h => h.2.2.2, fun h => ⟨rfl, rfl, rfl, h⟩⟩
        rw [e]
        exact tsame_jobs p s s' n f f' k w h h'
      · rw [show decide (sameT p n f k p n' f' k) = false from decide_eq_false (fun h => hn h.2.2.1)]
        obtain ⟨q, cap, rfl, _, _⟩ := h
        obtain ⟨q', cap', rfl, _, _⟩ := h'
        exact tsame_len p q q' n n' cap cap' k w hn
    · rw [show decide (sameT p n f k p n' f' k') = false from decide_eq_false (fun h => hk h.2.1)]
      obtain ⟨q, cap, rfl, _, _⟩ := h
      obtain ⟨q', cap', rfl, _, _⟩ := h'
      exact tsame_acc p q q' n n' cap cap' k k' w hk
  · rw [show decide (sameT p n f k p' n' f' k') = false from decide_eq_false (fun h => hp h.1)]
    obtain ⟨q, cap, rfl, _, _⟩ := h
    obtain ⟨q', cap', rfl, _, _⟩ := h'
    exact tsame_prio p p' q q' n n' cap cap' k k' w hp
end Go.Proofs.YthbkinopgialmaaGreatDoor
/- The law's own num: the number of an error that is an api.Errno, 0 of none. -/
namespace Go.Proofs.YthbkinopgialmaaGreatDoor
open Go.RowKit

theorem num_nil (w : World) : Calls Tryz.prog 13 #[.nilIface] w fun e w' => e = .returned (.int .i64 0) ∧ Below w.heap.size w w' := by
  go_enter Tryz.func13, Tryz.ntmps13
  go_wp2
  go_ret
  exact ⟨rfl, (Below.refl _ _).alloc (Nat.le_refl _) _⟩

set_option maxHeartbeats 4000000 in
theorem num_errno (n : Int) (w : World) (hg : LaidAt w) : Calls Tryz.prog 13 #[.iface 94 (.int .i64 n)] w fun e w' => e = .returned (.int .i64 n) ∧ Below w.heap.size w w' := by
  have hlt := hg.pos
  have hb : Below w.heap.size w (w.alloc (.cells #[.int .i64 0] 94)) := (Below.refl _ _).alloc (Nat.le_refl _) _
  have hA := as_hit n ⟨w.heap.size, 0, none⟩ (.int .i64 0) (w.alloc (.cells #[.int .i64 0] 94)) (hg.below hb) (by simp) (by simp)
  have HA := Lib.hid hA
  clear hA hg
  go_enter Tryz.func13, Tryz.ntmps13
  go_wp2_with fail
  refine HA.out.mono ?_
  rintro e w1 ⟨rfl, rfl⟩
  go_wp2_with fail
  go_ret
  exact ⟨rfl, ((((((Below.refl w.heap.size w).alloc (Nat.le_refl _) _).alloc (by simp) _).alloc (by simp; omega) _).alloc (by simp; omega) _).alloc (by simp; omega) _)⟩
end Go.Proofs.YthbkinopgialmaaGreatDoor
/- The law's own step: where it stands, what it leaves; an Add; no condition but those that each row names. -/
namespace Go.Proofs.YthbkinopgialmaaGreatDoor
open Go.RowKit Tsk

theorem num_any (n : Int) (w : World) (hg : LaidAt w) : Calls Tryz.prog 13 #[errV n] w fun e w' => e = .returned (.int .i64 n) ∧ Below w.heap.size w w' := by
  by_cases h : n = 0
  · subst h
    exact num_nil w
  · rw [errV_ne h]
    exact num_errno n w hg
theorem LaidAt.keeps {S : Nat → Prop} {w w' : World} (h : LaidAt w) (hk : Keeps S w w') (h0 : ¬ S 0) : LaidAt w' := by
  unfold LaidAt; rw [hk.cell (p := ⟨0, 0, none⟩) h.pos h0]; exact h
/-- Where step stands: a leaf and the document's, abreast. -/
structure StepIn (S X : Nat → Prop) (B : Nat) (w : World) (A : Tab) (T : Nat → Tk) (v gs ts ls ks : Value) : Prop where
  good : LGood A T
  lf : Lf S X B w A T v
  dl : DL X w A T gs ts ls ks
  sx : ∀ x, S x → X x
  xw : ∀ x, X x → x < w.heap.size
  b0 : 0 < B
  laid : LaidAt w
/-- What step leaves. -/
def StepPost (S X : Nat → Prop) (B : Nat) (w : World) (v : Value) (e : Ending) (w' : World) : Prop :=
  ∃ A' T' gs ts ls ks, e = .returned (.tuple #[lv 2 gs ts ls ks, .bool true]) ∧ LGood A' T' ∧ Lf S X B w' A' T' v ∧ DL X w' A' T' gs ts ls ks ∧ Keeps S w w'
abbrev OpT : TypeId := 39
/-- An operation in a block of its own. -/
def HasO (W : World) (g : Nat) (k n h l c a d : Int) : Prop := Has W g (.cells #[.int .i64 k, .int .i64 n, .int .i64 h, .int .i64 l, .int .i64 c, .int .i64 a, .int .i64 d] OpT (0, 0))
theorem HasO.cells {W : World} {g : Nat} {k n h l c a d : Int} (x : HasO W g k n h l c a d) : W.cell? ⟨g, 0, none⟩ = some (.int .i64 k) ∧ W.cell? ⟨g, 1, none⟩ = some (.int .i64 n) ∧ W.cell? ⟨g, 2, none⟩ = some (.int .i64 h) ∧ W.cell? ⟨g, 3, none⟩ = some (.int .i64 l) ∧ W.cell? ⟨g, 4, none⟩ = some (.int .i64 c) ∧ W.cell? ⟨g, 5, none⟩ = some (.int .i64 a) ∧ W.cell? ⟨g, 6, none⟩ = some (.int .i64 d) :=
  ⟨(has_cell x 0).trans rfl, (has_cell x 1).trans rfl, (has_cell x 2).trans rfl, (has_cell x 3).trans rfl, (has_cell x 4).trans rfl, (has_cell x 5).trans rfl, (has_cell x 6).trans rfl⟩
abbrev opv (k n h l c a d : Int) : Value := .agg #[.int .i64 k, .int .i64 n, .int .i64 h, .int .i64 l, .int .i64 c, .int .i64 a, .int .i64 d]
abbrev N0 : Value := .slice none 0 0
/-- The three blocks that a step begins with. -/
def begW (w : World) (gs ts ls ks : Value) (k n h l c a d : Int) : World := ((w.alloc (.cells #[.int .i64 2, gs, ts, ls, ks] LT)).alloc (.cells #[.int .i64 k, .int .i64 n, .int .i64 h, .int .i64 l, .int .i64 c, .int .i64 a, .int .i64 d] OpT)).alloc (.cells #[.int .i64 0, N0, N0, N0, N0] LT)
/-- They are there. -/
structure Beg (w : World) (gs ts ls ks : Value) (k n h l c a d : Int) (W : World) : Prop where
  r : HasL W w.heap.size 2 gs ts ls ks
  o : HasO W (w.heap.size + 1) k n h l c a d
  z : HasL W (w.heap.size + 1 + 1) 0 N0 N0 N0 N0
theorem beg_new (w : World) (gs ts ls ks : Value) (k n h l c a d : Int) : Beg w gs ts ls ks k n h l c a d (begW w gs ts ls ks k n h l c a d) ∧ Below w.heap.size w (begW w gs ts ls ks k n h l c a d) ∧ (begW w gs ts ls ks k n h l c a d).heap.size = w.heap.size + 3 := by
  unfold begW
  exact ⟨⟨has_old (has_old (has_new w _ _ rfl) _) _, has_old (has_new _ _ _ (by simp)) _, has_new _ _ _ (by simp)⟩, (((Below.refl _ _).alloc (Nat.le_refl _) _).alloc (by simp) _).alloc (by simp; omega) _, by simp⟩
theorem Beg.keeps {S : Nat → Prop} {w W W' : World} {gs ts ls ks : Value} {k n h l c a d : Int} (x : Beg w gs ts ls ks k n h l c a d W) (hk : Keeps S W W') (hS : ∀ x, S x → x < w.heap.size) : Beg w gs ts ls ks k n h l c a d W' :=
  ⟨has_keeps x.r hk (fun q => by have := hS _ q; omega), has_keeps x.o hk (fun q => by have := hS _ q; omega), has_keeps x.z hk (fun q => by have := hS _ q; omega)⟩
theorem Beg.below {w W W' : World} {gs ts ls ks : Value} {k n h l c a d : Int} (x : Beg w gs ts ls ks k n h l c a d W) (hb : Below W.heap.size W W') : Beg w gs ts ls ks k n h l c a d W' :=
  x.keeps (S := fun _ => False) (Keeps.of_below hb) (fun _ q => q.elim)
/-- The blocks that jobs and the document's leaf lie outside of, and the block of the answer. -/
abbrev XZ (X : Nat → Prop) (w : World) : Nat → Prop := fun x => X x ∨ x = w.heap.size + 1 + 1
theorem StepIn.wide {S X : Nat → Prop} {B : Nat} {w : World} {A : Tab} {T : Nat → Tk} {v gs ts ls ks : Value} (h : StepIn S X B w A T v gs ts ls ks) : Lf S (XZ X w) B w A T v ∧ DL (XZ X w) w A T gs ts ls ks ∧ (∀ x, S x → XZ X w x) ∧ (∀ W : World, w.heap.size + 3 ≤ W.heap.size → ∀ x, XZ X w x → x < W.heap.size) ∧ (∀ x, S x → B ≤ x ∧ x < w.heap.size) ∧ ¬ S 0 :=
  ⟨h.lf.mono (fun x hx q => by rcases q with q | q; exact q; omega), h.dl.mono (fun x hx q => by rcases q with q | q; exact q; omega), fun x q => .inl (h.sx x q), fun W hW x q => by rcases q with q | q; have := h.xw x q; omega; omega, h.lf.lt, fun q => by have := (h.lf.lt 0 q).1; have := h.b0; omega⟩
theorem arr5_5 (u0 u1 u2 u3 u4 v0 v1 v2 v3 v4 : Value) : ((((#[u0, u1, u2, u3, u4].setIfInBounds 0 v0).setIfInBounds 1 v1).setIfInBounds 2 v2).setIfInBounds 3 v3).setIfInBounds 4 v4 = #[v0, v1, v2, v3, v4] := by
  rw [← Array.toList_inj, Array.toList_setIfInBounds, Array.toList_setIfInBounds, Array.toList_setIfInBounds, Array.toList_setIfInBounds, Array.toList_setIfInBounds]; rfl
theorem HasL.set5 {W : World} {g : Nat} {k k' : Int} {gs ts ls ks gs' ts' ls' ks' : Value} (h : HasL W g k gs ts ls ks) : HasL (((((W.setCell ⟨g, 0, none⟩ (.int .i64 k')).setCell ⟨g, 1, none⟩ gs').setCell ⟨g, 2, none⟩ ts').setCell ⟨g, 3, none⟩ ls').setCell ⟨g, 4, none⟩ ks') g k' gs' ts' ls' ks' := by
  have a := has_set (has_set (has_set (has_set (has_set h 0 (.int .i64 k')) 1 gs') 2 ts') 3 ls') 4 ks'
  rwa [arr5_5] at a
/-- Behind the document's call: its answer in a block bx of its own. -/
structure Mid (X : Nat → Prop) (w W1 : World) (A' : Tab) (T' : Nat → Tk) (gs ts ls ks : Value) (bx : Nat) (W : World) : Prop where
  dl : DL (XZ X w) W A' T' gs ts ls ks
  hx : HasL W bx 2 gs ts ls ks
  lo : w.heap.size + 3 ≤ bx
  bel : Below W1.heap.size W1 W
theorem Mid.below {X : Nat → Prop} {w W1 W W' : World} {A' : Tab} {T' : Nat → Tk} {gs ts ls ks : Value} {bx : Nat} (h : Mid X w W1 A' T' gs ts ls ks bx W) (hb : Below W.heap.size W W') : Mid X w W1 A' T' gs ts ls ks bx W' :=
  ⟨h.dl.below hb, h.hx.below hb, h.lo, bnext h.bel hb⟩
theorem Mid.a {X : Nat → Prop} {w W1 w2 : World} {A' : Tab} {T' : Nat → Tk} {gs ts ls ks : Value} (h1 : w.heap.size + 3 ≤ W1.heap.size) (hd : DL (XZ X w) w2 A' T' gs ts ls ks) (h2 : Below W1.heap.size W1 w2) : Mid X w W1 A' T' gs ts ls ks w2.heap.size (w2.alloc (.cells #[.int .i64 2, gs, ts, ls, ks] LT)) := by
  have h3 := h2.size
  exact ⟨hd.below ((Below.refl _ _).alloc (Nat.le_refl _) _), hasL_new _ _ _ _ _ _, by omega, h2.alloc h3 _⟩
theorem Mid.b {X : Nat → Prop} {w W1 w2 : World} {A' : Tab} {T' : Nat → Tk} {gs ts ls ks : Value} (h1 : w.heap.size + 3 ≤ W1.heap.size) (hd : DL (fun x => XZ X w x ∨ x = W1.heap.size) w2 A' T' gs ts ls ks)
    (hb : Below (W1.alloc (.cells #[.int .i64 0, N0, N0, N0, N0] LT)).drew.heap.size (W1.alloc (.cells #[.int .i64 0, N0, N0, N0, N0] LT)).drew w2) :
    Mid X w W1 A' T' gs ts ls ks W1.heap.size (((((w2.setCell ⟨W1.heap.size, 0, none⟩ (.int .i64 2)).setCell ⟨W1.heap.size, 1, none⟩ gs).setCell ⟨W1.heap.size, 2, none⟩ ts).setCell ⟨W1.heap.size, 3, none⟩ ls).setCell ⟨W1.heap.size, 4, none⟩ ks) := by
  have h0 : Below W1.heap.size W1 (W1.alloc (.cells #[.int .i64 0, N0, N0, N0, N0] LT)).drew := ((Below.refl _ _).alloc (Nat.le_refl _) _).drew
  have h2 : Below W1.heap.size W1 w2 := bnext h0 hb
  have hh : HasL w2 W1.heap.size 0 N0 N0 N0 N0 := HasL.below (has_drew (hasL_new W1 0 N0 N0 N0 N0)) hb
  exact ⟨(hd.keeps (keeps5 (Keeps.refl _ w2) (.inr rfl) _ _ _ _ _)).mono (fun x _ q => .inl q), hh.set5, h1, below5 h2 (Nat.le_refl _) _ _ _ _ _⟩
/-- Behind all: what step leaves. -/
theorem Mid.fin {S X : Nat → Prop} {B : Nat} {w w0 W1 W W' : World} {A' : Tab} {T' : Nat → Tk} {v gs ts ls ks : Value} {bx : Nat} (h : Mid X w W1 A' T' gs ts ls ks bx W) (hg : LGood A' T') (hl : Lf S (XZ X w) B W1 A' T' v) (hS : ∀ x, S x → x < w.heap.size) (h0 : Below w.heap.size w w0) (hk : Keeps S w0 W1) (hb : Below W.heap.size W W') :
    StepPost S X B w v (.returned (.tuple #[lv 2 gs ts ls ks, .bool true])) (((((W'.setCell ⟨w.heap.size + 1 + 1, 0, none⟩ (.int .i64 2)).setCell ⟨w.heap.size + 1 + 1, 1, none⟩ gs).setCell ⟨w.heap.size + 1 + 1, 2, none⟩ ts).setCell ⟨w.heap.size + 1 + 1, 3, none⟩ ls).setCell ⟨w.heap.size + 1 + 1, 4, none⟩ ks) := by
  have k5 := keeps5 (R := fun x => x = w.heap.size + 1 + 1) (Keeps.refl _ W') rfl (.int .i64 2) gs ts ls ks
  have hb1 : Below W1.heap.size W1 W' := bnext h.bel hb
  have hkw : Keeps S w W' := ((Keeps.of_below h0).trans hk).trans (Keeps.of_below hb1)
  have q : S (w.heap.size + 1 + 1) ∨ w.heap.size ≤ w.heap.size + 1 + 1 := .inr (by omega)
  exact ⟨A', T', gs, ts, ls, ks, rfl, hg, ((hl.below hb1).keeps k5 (fun x hx e => by have := hS x hx; omega) (fun x e => .inr e)).mono (fun x _ q => .inl q),
    ((h.dl.below hb).keeps (k5.mono (fun x e => .inr e))).mono (fun x _ q => .inl q), ((((hkw.setCell _ _ q).setCell _ _ q).setCell _ _ q).setCell _ _ q).setCell _ _ q⟩
end Go.Proofs.YthbkinopgialmaaGreatDoor
/- The law's own step: an Add; no condition but those that each row names. -/
namespace Go.Proofs.YthbkinopgialmaaGreatDoor
open Go.RowKit Tsk

set_option maxHeartbeats 8000000 in
set_option maxRecDepth 100000 in
theorem step_add (S X : Nat → Prop) (B : Nat) (A : Tab) (T : Nat → Tk) (n h l c a d : Int) (v gs ts ls ks : Value) (w : World) (hin : StepIn S X B w A T v gs ts ls ks) :
    Calls Tryz.prog 7 #[v, lv 2 gs ts ls ks, opv 0 n h l c a d] w (StepPost S X B w v) := by
  obtain ⟨hl2, hd2, hsx, hxw, hslt, hs0⟩ := hin.wide
  have HP := Lib.hid (fun W (hb : Below w.heap.size w W) => ladd S (XZ X w) B A T hin.good W v (hl2.below hb) hsx n)
  have HR := Lib.hid (fun (Y : Nat → Prop) W (hD : DL Y W A T gs ts ls ks) (hY : ∀ x, Y x → x < W.heap.size) => radd13 Y A T hin.good gs ts ls ks W hD hY n)
  have HG := Lib.hid (hin.good.addG n)
  have HLA := Lib.hid hin.laid
  have HD2 := Lib.hid hd2
  have HSX := Lib.hid hsx
  have HXW := Lib.hid hxw
  have HSL := Lib.hid hslt
  have HS0 := Lib.hid hs0
  unfold LfPost at HP
  unfold AddR at HR
  generalize addA A n = A' at *
  generalize addT A T n = T' at *
  generalize addH A n = ah at *
  generalize addN A n = an at *
  obtain ⟨⟨p1, n1, c1, p2, n2, c2, p3, n3, c3, rfl, rfl, rfl⟩, pk, ck, rfl⟩ := sl5 hd2
  obtain ⟨_, bl, _, _, rfl, _⟩ := id hl2
  obtain ⟨hB, hbw, hsz⟩ := beg_new w (.slice p1 n1 c1) (.slice p2 n2 c2) (.slice p3 n3 c3) (.slice pk 8 ck) 0 n h l c a d
  obtain ⟨WA, hWA⟩ : ∃ WA, WA = begW w (.slice p1 n1 c1) (.slice p2 n2 c2) (.slice p3 n3 c3) (.slice pk 8 ck) 0 n h l c a d := ⟨_, rfl⟩
  rw [← hWA] at hB hbw hsz
  have HB := Lib.hid hB
  have HBW := Lib.hid hbw
  have HSZ := Lib.hid hsz
  unfold begW at hWA
  have HW := Lib.hid hWA
  clear hWA hB hbw hsz hin hl2 hd2 hsx hxw hslt hs0
  go_enter Tryz.func7, Tryz.ntmps7
  go_upto_region 1 with fail
  rw [← HW.out]
  obtain ⟨a0, a1, a2, a3, a4⟩ := HB.out.r.cells
  obtain ⟨b0, b1, b2, b3, b4, b5, b6⟩ := HB.out.o.cells
  go_wp2_with fail
  refine (HP.out WA HBW.out).mono ?_
  rintro e w1 ⟨rfl, hl1, hk1⟩
  have hS3 : ∀ x, S x → x < w.heap.size := fun x hx => (HSL.out x hx).2
  have HB1 := Lib.hid (HB.out.keeps hk1 hS3)
  have hs1 := hk1.size
  have HS1 := Lib.hid (show w.heap.size + 3 ≤ w1.heap.size from by have := HSZ.out; omega)
  have HL1 := Lib.hid hl1
  have HK1 := Lib.hid hk1
  have HD1 := Lib.hid ((HD2.out.below HBW.out).keeps (hk1.mono HSX.out))
  have HLA1 := Lib.hid ((HLA.out.below HBW.out).keeps hk1 HS0.out)
  have HR1 := Lib.hid (HR.out (XZ X w) w1 HD1.out (HXW.out w1 HS1.out))
  clear a0 a1 a2 a3 a4 b0 b1 b2 b3 b4 b5 b6 hl1 hk1 hs1 HP HR
  obtain ⟨a0, a1, a2, a3, a4⟩ := HB1.out.r.cells
  obtain ⟨b0, b1, b2, b3, b4, b5, b6⟩ := HB1.out.o.cells
  have hq : ((ah : Int) == ah) = true := by simp
  have hq2 : ((an : Int) == an) = true := by simp
  go_wp2_with fail
  refine HR1.out.mono ?_
  rintro e w2 ⟨gs2, ts2, ls2, ks2, rfl, hd3, hb2⟩
  obtain ⟨⟨q1, m1, d1, q2, m2, d2, q3, m3, d3, rfl, rfl, rfl⟩, qk, dk, rfl⟩ := sl5 hd3
  have HM := Lib.hid (Mid.a HS1.out hd3 hb2)
  have HB2 := Lib.hid (HB1.out.below hb2)
  have HLA2 := Lib.hid (HLA1.out.below hb2)
  clear a0 a1 a2 a3 a4 b0 b1 b2 b3 b4 b5 b6 hd3 hb2 HR1
  go_upto_region 5 with fail
  obtain ⟨wx, hwx⟩ : ∃ wx, wx = w2.alloc (.cells #[.int .i64 2, .slice q1 m1 d1, .slice q2 m2 d2, .slice q3 m3 d3, .slice qk 8 dk] LT) := ⟨_, rfl⟩
  rw [← hwx] at HM ⊢
  have HBX := Lib.hid (show Below w2.heap.size w2 wx from by rw [hwx]; exact (Below.refl _ _).alloc (Nat.le_refl _) _)
  have HNE := Lib.hid (show w.heap.size + 1 + 1 ≠ w2.heap.size from by have := HM.out.lo; omega)
  have HB3 := Lib.hid (HB2.out.below HBX.out)
  have HLA3 := Lib.hid (HLA2.out.below HBX.out)
  clear HB2 HLA2 HBX
  generalize w2.heap.size = bx at *
  have HD := Lib.hid (fun W (hb : Below wx.heap.size wx W) => show _ ∧ _ ∧ (∀ j, W.frozen? ⟨w.heap.size + 1 + 1, j, none⟩ = false) from ⟨(HM.out.below hb).hx.cells, HasL.cells (HB3.out.z.below hb), fun j => has_free (HasL.below HB3.out.z hb) j⟩)
  have HN := Lib.hid (fun W (hb : Below wx.heap.size wx W) => num_any an W (HLA3.out.below hb))
  obtain ⟨⟨a0, a1, a2, a3, a4⟩, ⟨y0, y1, y2, y3, y4⟩, fz⟩ := HD.out wx (Below.refl _ _)
  have hne := HNE.out
  have hne2 := HNE.out.symm
  clear hwx
  go_region_law (go_simp; go_at_call 13; refine (HN.out _ below_drewOne).mono ?_; rintro e wn ⟨rfl, hb⟩; have hq3 := bnext below_drewOne hb; obtain ⟨⟨a0, a1, a2, a3, a4⟩, ⟨y0, y1, y2, y3, y4⟩, fz⟩ := HD.out wn hq3; have HQ3 := Lib.hid hq3; clear hb hq3)
  all_goals
    go_wp2_with fail
    refine bodyPost_ret (v := .tuple #[lv 2 (.slice q1 m1 d1) (.slice q2 m2 d2) (.slice q3 m3 d3) (.slice qk 8 dk), .bool true]) (by simp [results, Tryz.results7, go_sem, y0, y1, y2, y3, y4]) rfl ?_
    exact HM.out.fin HG.out HL1.out hS3 HBW.out HK1.out HQ3.out
end Go.Proofs.YthbkinopgialmaaGreatDoor
/- The law's own step: a Drop; no condition but those that each row names. -/
namespace Go.Proofs.YthbkinopgialmaaGreatDoor
open Go.RowKit Tsk

set_option maxHeartbeats 8000000 in
set_option maxRecDepth 100000 in
theorem step_drop (S X : Nat → Prop) (B : Nat) (A : Tab) (T : Nat → Tk) (n h l c a d : Int) (v gs ts ls ks : Value) (w : World) (hin : StepIn S X B w A T v gs ts ls ks) :
    Calls Tryz.prog 7 #[v, lv 2 gs ts ls ks, opv 1 n h l c a d] w (StepPost S X B w v) := by
  obtain ⟨hl2, hd2, hsx, hxw, hslt, hs0⟩ := hin.wide
  have HP := Lib.hid (fun W (hb : Below w.heap.size w W) => ldrop S (XZ X w) B A T hin.good W v (hl2.below hb) hsx h)
  have HR := Lib.hid (fun (Y : Nat → Prop) W (hD : DL Y W A T gs ts ls ks) (hY : ∀ x, Y x → x < W.heap.size) => rdrop13 Y A T hin.good gs ts ls ks W hD hY h)
  have HG := Lib.hid (hin.good.dropG h)
  have HLA := Lib.hid hin.laid
  have HD2 := Lib.hid hd2
  have HSX := Lib.hid hsx
  have HXW := Lib.hid hxw
  have HSL := Lib.hid hslt
  have HS0 := Lib.hid hs0
  unfold LfPost at HP
  unfold DropR at HR
  generalize dropA A h = A' at *
  generalize dropT A T h = T' at *
  obtain ⟨kk, hkk⟩ : ∃ kk, kk = dropK A T h := ⟨_, rfl⟩
  rw [← hkk] at HP HR
  clear hkk
  obtain ⟨kg, ko, kn, kd, kc, kt⟩ := kk
  generalize dropN A h = an at *
  obtain ⟨⟨p1, n1, c1, p2, n2, c2, p3, n3, c3, rfl, rfl, rfl⟩, pk, ck, rfl⟩ := sl5 hd2
  obtain ⟨bl, rfl⟩ : ∃ bl, v = .pointer (some ⟨bl, 0, none⟩) := by
    obtain ⟨_, bl, _, _, e, _⟩ := id hl2
    exact ⟨bl, e⟩
  obtain ⟨hB, hbw, hsz⟩ := beg_new w (.slice p1 n1 c1) (.slice p2 n2 c2) (.slice p3 n3 c3) (.slice pk 8 ck) 1 n h l c a d
  obtain ⟨WA, hWA⟩ : ∃ WA, WA = begW w (.slice p1 n1 c1) (.slice p2 n2 c2) (.slice p3 n3 c3) (.slice pk 8 ck) 1 n h l c a d := ⟨_, rfl⟩
  rw [← hWA] at hB hbw hsz
  have HB := Lib.hid hB
  have HBW := Lib.hid hbw
  have HSZ := Lib.hid hsz
  unfold begW at hWA
  have HW := Lib.hid hWA
  clear hWA hB hbw hsz hin hl2 hd2 hsx hxw hslt hs0
  go_enter Tryz.func7, Tryz.ntmps7
  go_upto_region 1 with fail
  rw [← HW.out]
  obtain ⟨a0, a1, a2, a3, a4⟩ := HB.out.r.cells
  obtain ⟨b0, b1, b2, b3, b4, b5, b6⟩ := HB.out.o.cells
  go_wp2_with fail
  refine (HP.out WA HBW.out).mono ?_
  rintro e w1 ⟨rfl, hl1, hk1⟩
  have hS3 : ∀ x, S x → x < w.heap.size := fun x hx => (HSL.out x hx).2
  have HB1 := Lib.hid (HB.out.keeps hk1 hS3)
  have hs1 := hk1.size
  have HS1 := Lib.hid (show w.heap.size + 3 ≤ w1.heap.size from by have := HSZ.out; omega)
  have HL1 := Lib.hid hl1
  have HK1 := Lib.hid hk1
  have HD1 := Lib.hid ((HD2.out.below HBW.out).keeps (hk1.mono HSX.out))
  have HLA1 := Lib.hid ((HLA.out.below HBW.out).keeps hk1 HS0.out)
  clear a0 a1 a2 a3 a4 b0 b1 b2 b3 b4 b5 b6 hl1 hk1 hs1 HP
  obtain ⟨a0, a1, a2, a3, a4⟩ := HB1.out.r.cells
  obtain ⟨b0, b1, b2, b3, b4, b5, b6⟩ := HB1.out.o.cells
  have hq2 : ((an : Int) == an) = true := by simp
  go_upto_region 8 with fail
  obtain ⟨W1, hW1⟩ : ∃ W1, W1 = w1.alloc (.cells #[.int .i64 kg, .int .i64 ko, .int .i64 kn, .int .i64 kd, .int .i64 kc, .int .i64 kt] 59) := ⟨_, rfl⟩
  rw [← hW1]
  have HW1 := Lib.hid (show Below w1.heap.size w1 W1 ∧ HasA W1 w1.heap.size ⟨kg, ko, kn, kd, kc, kt⟩ ∧ W1.heap.size = w1.heap.size + 1 from by rw [hW1]; exact ⟨(Below.refl _ _).alloc (Nat.le_refl _) _, hasA_new w1 ⟨kg, ko, kn, kd, kc, kt⟩, by simp⟩)
  have HB1 := Lib.hid (HB1.out.below HW1.out.1)
  have HLA1 := Lib.hid (HLA1.out.below HW1.out.1)
  clear hW1 a0 a1 a2 a3 a4 b0 b1 b2 b3 b4 b5 b6
  obtain ⟨a0, a1, a2, a3, a4⟩ := HB1.out.r.cells
  obtain ⟨b0, b1, b2, b3, b4, b5, b6⟩ := HB1.out.o.cells
  have hs1 := HW1.out.2.2
  have HR1 := Lib.hid (HR.out (XZ X w) W1 (HD1.out.below HW1.out.1) (HXW.out W1 (by have := HS1.out; omega)))
  clear HR hs1
  go_wp2_with fail
  refine HR1.out.mono ?_
  rintro e w2 ⟨gs2, ts2, ls2, ks2, rfl, hd3, hb2⟩
  obtain ⟨⟨q1, m1, d1, q2, m2, d2, q3, m3, d3, rfl, rfl, rfl⟩, qk, dk, rfl⟩ := sl5 hd3
  have HM := Lib.hid (Mid.a (by have := HS1.out; have := HW1.out.2.2; omega) hd3 hb2)
  have HB2 := Lib.hid (HB1.out.below hb2)
  have HLA2 := Lib.hid (HLA1.out.below hb2)
  have HA2 := Lib.hid (HW1.out.2.1.below hb2)
  have HS2 := Lib.hid (show w.heap.size + 3 ≤ w1.heap.size ∧ w1.heap.size + 1 ≤ w2.heap.size from ⟨HS1.out, by have := HW1.out.2.2; have := hb2.size; omega⟩)
  clear a0 a1 a2 a3 a4 b0 b1 b2 b3 b4 b5 b6 hd3 hb2 HR1
  go_upto_region 9 with fail
  obtain ⟨wy, hwy⟩ : ∃ wy, wy = w2.alloc (.cells #[.int .i64 2, .slice q1 m1 d1, .slice q2 m2 d2, .slice q3 m3 d3, .slice qk 8 dk] LT) := ⟨_, rfl⟩
  rw [← hwy] at HM ⊢
  have HBY := Lib.hid (show Below w2.heap.size w2 wy ∧ wy.heap.size = w2.heap.size + 1 from by rw [hwy]; exact ⟨(Below.refl _ _).alloc (Nat.le_refl _) _, by simp⟩)
  clear hwy
  obtain ⟨wx, hwx⟩ : ∃ wx, wx = wy.alloc (.cells #[.int .i64 kg, .int .i64 ko, .int .i64 kn, .int .i64 kd, .int .i64 kc, .int .i64 kt] 59) := ⟨_, rfl⟩
  try rw [← HBY.out.2]
  rw [← hwx]
  have HBX := Lib.hid (show Below wy.heap.size wy wx ∧ HasA wx wy.heap.size ⟨kg, ko, kn, kd, kc, kt⟩ from by rw [hwx]; exact ⟨(Below.refl _ _).alloc (Nat.le_refl _) _, hasA_new wy ⟨kg, ko, kn, kd, kc, kt⟩⟩)
  have HM := Lib.hid (HM.out.below HBX.out.1)
  have HB3 := Lib.hid ((HB2.out.below HBY.out.1).below HBX.out.1)
  have HLA3 := Lib.hid ((HLA2.out.below HBY.out.1).below HBX.out.1)
  have HA3 := Lib.hid ((HA2.out.below HBY.out.1).below HBX.out.1)
  have HNE := Lib.hid (show w.heap.size + 1 + 1 < w1.heap.size ∧ w1.heap.size < w2.heap.size ∧ w2.heap.size < wy.heap.size from by have := HS2.out; have := HBY.out.2; omega)
  have HW2 := Lib.hid HW1.out.1
  clear hwx HB2 HLA2 HA2 HS2 HBY HW1
  have HL9 := Lib.hid (HL1.out.below HW2.out)
  have HK9 := Lib.hid (HK1.out.trans (Keeps.of_below HW2.out))
  generalize w2.heap.size = bx at *
  generalize hb9 : wy.heap.size = b9 at *
  generalize w1.heap.size = a9 at *
  have HD := Lib.hid (fun W (hb : Below wx.heap.size wx W) => show _ ∧ _ ∧ _ ∧ _ ∧ (∀ j, W.frozen? ⟨w.heap.size + 1 + 1, j, none⟩ = false) from ⟨(HM.out.below hb).hx.cells, HasL.cells (HB3.out.z.below hb), HasA.cells (HA3.out.below hb), HasA.cells (HBX.out.2.below hb), fun j => has_free (HasL.below HB3.out.z hb) j⟩)
  have HN := Lib.hid (fun W (hb : Below wx.heap.size wx W) => num_any an W (HLA3.out.below hb))
  obtain ⟨⟨a0, a1, a2, a3, a4⟩, ⟨y0, y1, y2, y3, y4⟩, ⟨u0, u1, u2, u3, u4, u5⟩, ⟨v0, v1, v2, v3, v4, v5⟩, fz⟩ := HD.out wx (Below.refl _ _)
  have hne1 : ¬ w.heap.size + 1 + 1 = a9 := by have := HNE.out; omega
  have hne2 : ¬ w.heap.size + 1 + 1 = bx := by have := HNE.out; omega
  have hne3 : ¬ w.heap.size + 1 + 1 = b9 := by have := HNE.out; omega
  have hne4 : ¬ a9 = w.heap.size + 1 + 1 := by have := HNE.out; omega
  have hne5 : ¬ bx = w.heap.size + 1 + 1 := by have := HNE.out; omega
  have hne6 : ¬ b9 = w.heap.size + 1 + 1 := by have := HNE.out; omega
  go_region_law (go_simp; go_at_call 13; refine (HN.out _ below_drewOne).mono ?_; rintro e wn ⟨rfl, hb⟩; have hq3 := bnext below_drewOne hb; obtain ⟨⟨a0, a1, a2, a3, a4⟩, ⟨y0, y1, y2, y3, y4⟩, ⟨u0, u1, u2, u3, u4, u5⟩, ⟨v0, v1, v2, v3, v4, v5⟩, fz⟩ := HD.out wn hq3; have HQ3 := Lib.hid hq3; clear hb hq3)
  all_goals
    go_wp2_with fail
    refine bodyPost_ret (v := .tuple #[lv 2 (.slice q1 m1 d1) (.slice q2 m2 d2) (.slice q3 m3 d3) (.slice qk 8 dk), .bool true]) (by simp [results, Tryz.results7, go_sem, y0, y1, y2, y3, y4]) rfl ?_
    exact HM.out.fin HG.out HL9.out hS3 HBW.out HK9.out HQ3.out
end Go.Proofs.YthbkinopgialmaaGreatDoor
/- The law's own step: a Push; no condition but those that each row names. -/
namespace Go.Proofs.YthbkinopgialmaaGreatDoor
open Go.RowKit Tsk

set_option maxHeartbeats 8000000 in
set_option maxRecDepth 100000 in
theorem step_push (S X : Nat → Prop) (B : Nat) (A : Tab) (T : Nat → Tk) (n h l c a d : Int) (v gs ts ls ks : Value) (w : World) (hin : StepIn S X B w A T v gs ts ls ks) :
    Calls Tryz.prog 7 #[v, lv 2 gs ts ls ks, opv 2 n h l c a d] w (StepPost S X B w v) := by
  obtain ⟨hl2, hd2, hsx, hxw, hslt, hs0⟩ := hin.wide
  have HP := Lib.hid (fun W (hb : Below w.heap.size w W) (hs : w.heap.size + 3 ≤ W.heap.size) => lpush S (XZ X w) B A T hin.good W v (hl2.below hb) hsx (hxw W hs) h ⟨l, c, a, d⟩ n)
  have HR := Lib.hid (fun (Y : Nat → Prop) W (hD : DL Y W A T gs ts ls ks) (hY : ∀ x, Y x → x < W.heap.size) => rpush13 Y A T hin.good gs ts ls ks W hD hY h ⟨l, c, a, d⟩ n)
  have HG := Lib.hid (hin.good.pushG h ⟨l, c, a, d⟩ n)
  have HLA := Lib.hid hin.laid
  have HD2 := Lib.hid hd2
  have HSX := Lib.hid hsx
  have HXW := Lib.hid hxw
  have HSL := Lib.hid hslt
  have HS0 := Lib.hid hs0
  unfold LfPost at HP
  unfold PushR at HR
  generalize pushT A T h ⟨l, c, a, d⟩ n = T' at *
  generalize pushN A T h ⟨l, c, a, d⟩ n = an at *
  obtain ⟨⟨p1, n1, c1, p2, n2, c2, p3, n3, c3, rfl, rfl, rfl⟩, pk, ck, rfl⟩ := sl5 hd2
  obtain ⟨_, bl, _, _, rfl, _⟩ := id hl2
  obtain ⟨hB, hbw, hsz⟩ := beg_new w (.slice p1 n1 c1) (.slice p2 n2 c2) (.slice p3 n3 c3) (.slice pk 8 ck) 2 n h l c a d
  obtain ⟨WA, hWA⟩ : ∃ WA, WA = begW w (.slice p1 n1 c1) (.slice p2 n2 c2) (.slice p3 n3 c3) (.slice pk 8 ck) 2 n h l c a d := ⟨_, rfl⟩
  rw [← hWA] at hB hbw hsz
  have HB := Lib.hid hB
  have HBW := Lib.hid hbw
  have HSZ := Lib.hid hsz
  unfold begW at hWA
  have HW := Lib.hid hWA
  clear hWA hB hbw hsz hin hl2 hd2 hsx hxw hslt hs0
  go_enter Tryz.func7, Tryz.ntmps7
  go_upto_region 1 with fail
  rw [← HW.out]
  obtain ⟨a0, a1, a2, a3, a4⟩ := HB.out.r.cells
  obtain ⟨b0, b1, b2, b3, b4, b5, b6⟩ := HB.out.o.cells
  go_wp2_with fail
  refine (HP.out WA HBW.out (by have := HSZ.out; omega)).mono ?_
  rintro e w1 ⟨rfl, hl1, hk1⟩
  have hS3 : ∀ x, S x → x < w.heap.size := fun x hx => (HSL.out x hx).2
  have HB1 := Lib.hid (HB.out.keeps hk1 hS3)
  have hs1 := hk1.size
  have HS1 := Lib.hid (show w.heap.size + 3 ≤ w1.heap.size from by have := HSZ.out; omega)
  have HL1 := Lib.hid hl1
  have HK1 := Lib.hid hk1
  have HD1 := Lib.hid ((HD2.out.below HBW.out).keeps (hk1.mono HSX.out))
  have HLA1 := Lib.hid ((HLA.out.below HBW.out).keeps hk1 HS0.out)
  have HR1 := Lib.hid (HR.out (XZ X w) w1 HD1.out (HXW.out w1 HS1.out))
  clear a0 a1 a2 a3 a4 b0 b1 b2 b3 b4 b5 b6 hl1 hk1 hs1 HP HR
  obtain ⟨a0, a1, a2, a3, a4⟩ := HB1.out.r.cells
  obtain ⟨b0, b1, b2, b3, b4, b5, b6⟩ := HB1.out.o.cells
  have hq2 : ((an : Int) == an) = true := by simp
  go_wp2_with fail
  refine HR1.out.mono ?_
  rintro e w2 ⟨gs2, ts2, ls2, ks2, rfl, hd3, hb2⟩
  obtain ⟨⟨q1, m1, d1, q2, m2, d2, q3, m3, d3, rfl, rfl, rfl⟩, qk, dk, rfl⟩ := sl5 hd3
  have HM := Lib.hid (Mid.a HS1.out hd3 hb2)
  have HB2 := Lib.hid (HB1.out.below hb2)
  have HLA2 := Lib.hid (HLA1.out.below hb2)
  clear a0 a1 a2 a3 a4 b0 b1 b2 b3 b4 b5 b6 hd3 hb2 HR1
  go_upto_region 11 with fail
  obtain ⟨wx, hwx⟩ : ∃ wx, wx = w2.alloc (.cells #[.int .i64 2, .slice q1 m1 d1, .slice q2 m2 d2, .slice q3 m3 d3, .slice qk 8 dk] LT) := ⟨_, rfl⟩
  rw [← hwx] at HM ⊢
  have HBX := Lib.hid (show Below w2.heap.size w2 wx from by rw [hwx]; exact (Below.refl _ _).alloc (Nat.le_refl _) _)
  have HNE := Lib.hid (show w.heap.size + 1 + 1 ≠ w2.heap.size from by have := HM.out.lo; omega)
  have HB3 := Lib.hid (HB2.out.below HBX.out)
  have HLA3 := Lib.hid (HLA2.out.below HBX.out)
  clear HB2 HLA2 HBX
  generalize w2.heap.size = bx at *
  have HD := Lib.hid (fun W (hb : Below wx.heap.size wx W) => show _ ∧ _ ∧ (∀ j, W.frozen? ⟨w.heap.size + 1 + 1, j, none⟩ = false) from ⟨(HM.out.below hb).hx.cells, HasL.cells (HB3.out.z.below hb), fun j => has_free (HasL.below HB3.out.z hb) j⟩)
  have HN := Lib.hid (fun W (hb : Below wx.heap.size wx W) => num_any an W (HLA3.out.below hb))
  obtain ⟨⟨a0, a1, a2, a3, a4⟩, ⟨y0, y1, y2, y3, y4⟩, fz⟩ := HD.out wx (Below.refl _ _)
  have hne := HNE.out
  have hne2 := HNE.out.symm
  clear hwx
  go_region_law (go_simp; go_at_call 13; refine (HN.out _ below_drewOne).mono ?_; rintro e wn ⟨rfl, hb⟩; have hq3 := bnext below_drewOne hb; obtain ⟨⟨a0, a1, a2, a3, a4⟩, ⟨y0, y1, y2, y3, y4⟩, fz⟩ := HD.out wn hq3; have HQ3 := Lib.hid hq3; clear hb hq3)
  all_goals
    go_wp2_with fail
    refine bodyPost_ret (v := .tuple #[lv 2 (.slice q1 m1 d1) (.slice q2 m2 d2) (.slice q3 m3 d3) (.slice qk 8 dk), .bool true]) (by simp [results, Tryz.results7, go_sem, y0, y1, y2, y3, y4]) rfl ?_
    exact HM.out.fin HG.out HL1.out hS3 HBW.out HK1.out HQ3.out
end Go.Proofs.YthbkinopgialmaaGreatDoor
/- The law's own step: an Offer; no condition but those that each row names. -/
namespace Go.Proofs.YthbkinopgialmaaGreatDoor
open Go.RowKit Tsk

set_option maxHeartbeats 8000000 in
set_option maxRecDepth 100000 in
theorem step_offer (S X : Nat → Prop) (B : Nat) (A : Tab) (T : Nat → Tk) (n h l c a d : Int) (v gs ts ls ks : Value) (w : World) (hin : StepIn S X B w A T v gs ts ls ks) :
    Calls Tryz.prog 7 #[v, lv 2 gs ts ls ks, opv 3 n h l c a d] w (StepPost S X B w v) := by
  obtain ⟨hl2, hd2, hsx, hxw, hslt, hs0⟩ := hin.wide
  have HP := Lib.hid (fun W (hb : Below w.heap.size w W) (hs : w.heap.size + 3 ≤ W.heap.size) => loffer S (XZ X w) B A T hin.good W v (hl2.below hb) hsx (hxw W hs) n)
  have HR := Lib.hid (fun (Y : Nat → Prop) W (hD : DL Y W A T gs ts ls ks) (hY : ∀ x, Y x → x < W.heap.size) => roffer13 Y A T hin.good gs ts ls ks W hD hY n)
  have HG := Lib.hid (hin.good.offG n)
  have HLA := Lib.hid hin.laid
  have HD2 := Lib.hid hd2
  have HSX := Lib.hid hsx
  have HXW := Lib.hid hxw
  have HSL := Lib.hid hslt
  have HS0 := Lib.hid hs0
  unfold LfPost at HP
  unfold OffR at HR
  generalize offT A T n = T' at *
  generalize offH A T n = ah at *
  generalize offM A T n = am at *
  generalize offL A T n = an at *
  obtain ⟨⟨p1, n1, c1, p2, n2, c2, p3, n3, c3, rfl, rfl, rfl⟩, pk, ck, rfl⟩ := sl5 hd2
  obtain ⟨_, bl, _, _, rfl, _⟩ := id hl2
  obtain ⟨hB, hbw, hsz⟩ := beg_new w (.slice p1 n1 c1) (.slice p2 n2 c2) (.slice p3 n3 c3) (.slice pk 8 ck) 3 n h l c a d
  obtain ⟨WA, hWA⟩ : ∃ WA, WA = begW w (.slice p1 n1 c1) (.slice p2 n2 c2) (.slice p3 n3 c3) (.slice pk 8 ck) 3 n h l c a d := ⟨_, rfl⟩
  rw [← hWA] at hB hbw hsz
  have HB := Lib.hid hB
  have HBW := Lib.hid hbw
  have HSZ := Lib.hid hsz
  unfold begW at hWA
  have HW := Lib.hid hWA
  clear hWA hB hbw hsz hin hl2 hd2 hsx hxw hslt hs0
  go_enter Tryz.func7, Tryz.ntmps7
  go_upto_region 1 with fail
  rw [← HW.out]
  obtain ⟨a0, a1, a2, a3, a4⟩ := HB.out.r.cells
  obtain ⟨b0, b1, b2, b3, b4, b5, b6⟩ := HB.out.o.cells
  go_wp2_with fail
  refine (HP.out WA HBW.out (by have := HSZ.out; omega)).mono ?_
  rintro e w1 ⟨rfl, hl1, hk1⟩
  have hS3 : ∀ x, S x → x < w.heap.size := fun x hx => (HSL.out x hx).2
  have HB1 := Lib.hid (HB.out.keeps hk1 hS3)
  have hs1 := hk1.size
  have HS1 := Lib.hid (show w.heap.size + 3 ≤ w1.heap.size from by have := HSZ.out; omega)
  have HL1 := Lib.hid hl1
  have HK1 := Lib.hid hk1
  have HD1 := Lib.hid ((HD2.out.below HBW.out).keeps (hk1.mono HSX.out))
  have HLA1 := Lib.hid ((HLA.out.below HBW.out).keeps hk1 HS0.out)
  have HR1 := Lib.hid (HR.out (XZ X w) w1 HD1.out (HXW.out w1 HS1.out))
  clear a0 a1 a2 a3 a4 b0 b1 b2 b3 b4 b5 b6 hl1 hk1 hs1 HP HR
  obtain ⟨a0, a1, a2, a3, a4⟩ := HB1.out.r.cells
  obtain ⟨b0, b1, b2, b3, b4, b5, b6⟩ := HB1.out.o.cells
  have hq : ((ah : Int) == ah) = true := by simp
  have hq2 : ((an : Int) == an) = true := by simp
  have hq3 : ((am : Int) == am) = true := by simp
  go_wp2_with fail
  refine HR1.out.mono ?_
  rintro e w2 ⟨gs2, ts2, ls2, ks2, rfl, hd3, hb2⟩
  obtain ⟨⟨q1, m1, d1, q2, m2, d2, q3, m3, d3, rfl, rfl, rfl⟩, qk, dk, rfl⟩ := sl5 hd3
  have HM := Lib.hid (Mid.a HS1.out hd3 hb2)
  have HB2 := Lib.hid (HB1.out.below hb2)
  have HLA2 := Lib.hid (HLA1.out.below hb2)
  clear a0 a1 a2 a3 a4 b0 b1 b2 b3 b4 b5 b6 hd3 hb2 HR1
  go_upto_region 17 with fail
  obtain ⟨wx, hwx⟩ : ∃ wx, wx = w2.alloc (.cells #[.int .i64 2, .slice q1 m1 d1, .slice q2 m2 d2, .slice q3 m3 d3, .slice qk 8 dk] LT) := ⟨_, rfl⟩
  rw [← hwx] at HM ⊢
  have HBX := Lib.hid (show Below w2.heap.size w2 wx from by rw [hwx]; exact (Below.refl _ _).alloc (Nat.le_refl _) _)
  have HNE := Lib.hid (show w.heap.size + 1 + 1 ≠ w2.heap.size from by have := HM.out.lo; omega)
  have HB3 := Lib.hid (HB2.out.below HBX.out)
  have HLA3 := Lib.hid (HLA2.out.below HBX.out)
  clear HB2 HLA2 HBX
  generalize w2.heap.size = bx at *
  have HD := Lib.hid (fun W (hb : Below wx.heap.size wx W) => show _ ∧ _ ∧ (∀ j, W.frozen? ⟨w.heap.size + 1 + 1, j, none⟩ = false) from ⟨(HM.out.below hb).hx.cells, HasL.cells (HB3.out.z.below hb), fun j => has_free (HasL.below HB3.out.z hb) j⟩)
  obtain ⟨⟨a0, a1, a2, a3, a4⟩, ⟨y0, y1, y2, y3, y4⟩, fz⟩ := HD.out wx (Below.refl _ _)
  have hne := HNE.out
  have hne2 := HNE.out.symm
  clear hwx
  go_wp2_with fail
  refine bodyPost_ret (v := .tuple #[lv 2 (.slice q1 m1 d1) (.slice q2 m2 d2) (.slice q3 m3 d3) (.slice qk 8 dk), .bool true]) (by simp [results, Tryz.results7, go_sem, y0, y1, y2, y3, y4]) rfl ?_
  exact HM.out.fin HG.out HL1.out hS3 HBW.out HK1.out (Below.refl _ _)
end Go.Proofs.YthbkinopgialmaaGreatDoor
