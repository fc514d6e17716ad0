/- Texts of stages 3, 4, 12, 13 and 14 that stand together: JOf JPlC JPlO JRun JDo JWorks JNil; no condition but those that each row names. -/
import Derived.Test.YtedgchafligndaaGreatJB3
import Derived.Test.YtedgchafligndaaGreatJB8
import Derived.Test.YtedgchafligndaaGreatJB10
import Derived.Test.YtedgchafligndaaGreatJB11
import Derived.Test.YtedgchafligndaaGreatJB12
import Derived.WalkMore
/- The document's own pool: Of; no condition but those that each row names. -/
namespace Go.Proofs.YtedgchafligndaaGreat
open Go.RowKit Tsk

/-- What Of answers. -/
def OfR14 (w : World) (A : Tab) (T : Nat → Tk) (x : Int) (e : Ending) (w' : World) : Prop :=
  (A.find x = none → e = .returned (.tuple #[zT, .int .i64 20]) ∧ Below w.heap.size w w') ∧
  ∀ i, A.find x = some i → ∃ s, e = .returned (.tuple #[tV (T i).p s (T i).k, .int .i64 0]) ∧ JobsX (fun x => x < w.heap.size) w' s (T i).n (T i).f ∧ Below w.heap.size w w'
set_option maxHeartbeats 2000000 in
set_option maxRecDepth 100000 in
theorem rof_none (X : Nat → Prop) (A : Tab) (T : Nat → Tk) (last : Int) (hg : PGood A T last) (gs ts ks : Value) (w : World) (h : DP X w A T gs ts ks) (x : Int) (hf : A.find x = none) :
    Calls Tryz.prog 42 #[pv gs ts ks last, .int .i64 x] w fun e w' => e = .returned (.tuple #[zT, .int .i64 20]) ∧ Below w.heap.size w w' := by
  have HF := Lib.hid (fun W (hb : Below w.heap.size w W) => rfind14 X A T last hg x gs ts ks W (h.below hb))
  rw [hf, show optV none = -1 from rfl] at HF
  obtain ⟨p, cp, q, cq, pk, ck, sl, rfl, rfl, rfl, _, _, hTX⟩ := h.shape hg
  obtain ⟨WA, hWA⟩ : ∃ WA, WA = (w.alloc (.cells #[.slice p 16 cp, .slice q 16 cq, .slice pk 16 ck, .int .i64 last] PT14)).alloc (.cells #[.int .i64 0, .slice none 0 0, .int .i64 0, .int .i64 0, .int .i64 0, .int .i64 0, .int .i64 0, .int .i64 0] KT) := ⟨_, rfl⟩
  have HB := Lib.hid (show Below w.heap.size w WA from by rw [hWA]; exact ((Below.refl _ _).alloc (Nat.le_refl _) _).alloc (by simp) _)
  have HT := Lib.hid (show HasP WA w.heap.size (.slice p 16 cp) (.slice q 16 cq) (.slice pk 16 ck) last ∧ HasT WA (w.heap.size + 1) 0 (.slice none 0 0) kZ from by rw [hWA]; exact ⟨has_old (hasP_new _ _ _ _ _) _, has_new _ _ _ (by simp)⟩)
  have HW := Lib.hid hWA
  clear hWA h hg hf
  go_enter Tryz.func42, Tryz.ntmps42
  go_upto_region 1 with fail
  rw [← HW.out]
  obtain ⟨a0, a1, a2, a3⟩ := HasP.cells HT.out.1
  go_wp2_with fail
  refine (HF.out _ HB.out).mono ?_
  rintro e w1 ⟨rfl, hb1⟩
  have HB1 := Lib.hid (bnext HB.out hb1)
  have HT1 := HT.out.2.below hb1
  obtain ⟨x0, x1, x2, x3, x4, x5, x6, x7⟩ := HT1.cells
  have fr := fun j => has_free HT1 j
  clear a0 a1 a2 a3 hb1 HT1
  go_wp2_with fail
  refine bodyPost_ret (v := .tuple #[zT, .int .i64 20]) (by simp [results, Tryz.results42, go_sem, x0, x1, x2, x3, x4, x5, x6, x7]) rfl ⟨rfl, ?_⟩
  exact below8 HB1.out (by omega) _ _ _ _ _ _ _ _
set_option maxHeartbeats 2000000 in
set_option maxRecDepth 100000 in
theorem rof_some (X : Nat → Prop) (A : Tab) (T : Nat → Tk) (last : Int) (hg : PGood A T last) (gs ts ks : Value) (w : World) (h : DP X w A T gs ts ks) (x : Int) (i : Nat) (hf : A.find x = some i) :
    Calls Tryz.prog 42 #[pv gs ts ks last, .int .i64 x] w fun e w' => ∃ s, e = .returned (.tuple #[tV (T i).p s (T i).k, .int .i64 0]) ∧ JobsX (fun x => x < w.heap.size) w' s (T i).n (T i).f ∧ Below w.heap.size w w' := by
  have HF := Lib.hid (fun W (hb : Below w.heap.size w W) => rfind14 X A T last hg x gs ts ks W (h.below hb))
  rw [hf, show optV (some i) = (i : Int) from rfl] at HF
  have hi16 : i < 16 := by have h1 := (find_inv hf).1; have h2 := hg.len; omega
  obtain ⟨p, cp, q, cq, pk, ck, sl, rfl, rfl, rfl, _, _, hTX⟩ := h.shape hg
  obtain ⟨_, _, e, _, hc⟩ := hTX.tk
  simp only [Value.slice.injEq] at e
  obtain ⟨bk, ok, e2, d0, d1, d2, d3, d4, d5, d6, d7, hJ0⟩ := hc i hi16
  have e3 : pk = some ⟨bk, ok, none⟩ := by rw [e.1]; exact e2
  subst e3
  have HJ := Lib.hid hJ0
  obtain ⟨q0, cq0, hq0, _⟩ := hJ0
  have hbk : bk < w.heap.size := cell_lt d0
  obtain ⟨WA, hWA⟩ : ∃ WA, WA = (w.alloc (.cells #[.slice p 16 cp, .slice q 16 cq, .slice (some ⟨bk, ok, none⟩) 16 ck, .int .i64 last] PT14)).alloc (.cells #[.int .i64 0, .slice none 0 0, .int .i64 0, .int .i64 0, .int .i64 0, .int .i64 0, .int .i64 0, .int .i64 0] KT) := ⟨_, rfl⟩
  have HB := Lib.hid (show Below w.heap.size w WA from by rw [hWA]; exact ((Below.refl _ _).alloc (Nat.le_refl _) _).alloc (by simp) _)
  have HT := Lib.hid (show HasP WA w.heap.size (.slice p 16 cp) (.slice q 16 cq) (.slice (some ⟨bk, ok, none⟩) 16 ck) last ∧ HasT WA (w.heap.size + 1) 0 (.slice none 0 0) kZ from by rw [hWA]; exact ⟨has_old (hasP_new _ _ _ _ _) _, has_new _ _ _ (by simp)⟩)
  have HW := Lib.hid hWA
  dsimp only [tm] at d0 d1 d2 d3 d4 d5 d6 d7 hq0 HJ
  rw [hq0] at d1 HJ
  obtain ⟨t, hti⟩ : ∃ t, t = T i := ⟨_, rfl⟩
  rw [← hti] at d0 d1 d2 d3 d4 d5 d6 d7 HJ ⊢
  have HN8 := Lib.hid (show t.n ≤ 8 from by rw [hti]; exact (hg.ok i).2.1)
  obtain ⟨tp, ts', tn, tf, ⟨kg, ko, kn, kd, kc, kt⟩⟩ := t
  dsimp only at d0 d1 d2 d3 d4 d5 d6 d7 HJ HN8 ⊢
  have HX := Lib.hid (fun W (hb : Below w.heap.size w W) => show _ ∧ _ ∧ _ ∧ _ ∧ _ ∧ _ ∧ _ ∧ _ from ⟨(hb.cell (p := ⟨bk, ok + i * 8, none⟩) hbk).trans d0, (hb.cell (p := ⟨bk, ok + i * 8 + 1, none⟩) hbk).trans d1, (hb.cell (p := ⟨bk, ok + i * 8 + 2, none⟩) hbk).trans d2, (hb.cell (p := ⟨bk, ok + i * 8 + 3, none⟩) hbk).trans d3, (hb.cell (p := ⟨bk, ok + i * 8 + 4, none⟩) hbk).trans d4, (hb.cell (p := ⟨bk, ok + i * 8 + 5, none⟩) hbk).trans d5, (hb.cell (p := ⟨bk, ok + i * 8 + 6, none⟩) hbk).trans d6, (hb.cell (p := ⟨bk, ok + i * 8 + 7, none⟩) hbk).trans d7⟩)
  have z0 : (0 : Int) ≤ (i : Int) := by omega
  have z1 : (i : Int) < 16 := by omega
  have HTW := Lib.hid (fun W (hb : Below w.heap.size w W) => rtwin tp (.slice q0 tn cq0) tn tf ⟨kg, ko, kn, kd, kc, kt⟩ W (HJ.out.below hb) (by have := HN8.out; omega))
  clear hWA h hg hf hTX hc e e2 hq0 hti d0 d1 d2 d3 d4 d5 d6 d7
  go_enter Tryz.func42, Tryz.ntmps42
  go_upto_region 1 with fail
  rw [← HW.out]
  obtain ⟨a0, a1, a2, a3⟩ := HasP.cells HT.out.1
  go_wp2_with fail
  refine (HF.out _ HB.out).mono ?_
  rintro e w1 ⟨rfl, hb1⟩
  have HB1 := Lib.hid (bnext HB.out hb1)
  clear a0 a1 a2 a3
  have HT1 := HT.out.2.below hb1
  obtain ⟨x0, x1, x2, x3, x4, x5, x6, x7⟩ := HT1.cells
  have fr := fun j => has_free HT1 j
  obtain ⟨a0, a1, a2, a3⟩ := HasP.cells (HasP.below HT.out.1 hb1)
  obtain ⟨d0, d1, d2, d3, d4, d5, d6, d7⟩ := HX.out w1 HB1.out
  have HS1 := Lib.hid (show w.heap.size + 1 < w1.heap.size from has_lt HT1)
  have HT1 := Lib.hid HT1
  clear hb1 x0 x1 x2 x3 x4 x5 x6 x7 fr
  go_wp2_with fail
  refine (HTW.out w1 HB1.out).mono ?_
  rintro e w2 ⟨xx, rfl, s2, c2, rfl, ho, hb2⟩
  have HO := Lib.hid ho
  have HB2 := Lib.hid (bnext HB1.out hb2)
  have HT2 := Lib.hid (HasT.below HT1.out hb2)
  clear ho hb2 a0 a1 a2 a3 d0 d1 d2 d3 d4 d5 d6 d7
  obtain ⟨x0, x1, x2, x3, x4, x5, x6, x7⟩ := HT2.out.cells
  have fr := fun j => has_free HT2.out j
  go_wp2_with fail
  refine bodyPost_ret (v := .tuple #[tV tp (.slice s2 tn c2) ⟨kg, ko, kn, kd, kc, kt⟩, .int .i64 0]) (by simp [results, Tryz.results42, go_sem, x0, x1, x2, x3, x4, x5, x6, x7]) rfl ⟨_, rfl, JobsX.own (own_low8 HO.out HS1.out _ _ _ _ _ _ _ _) (by have := HN8.out; omega) (fun x hx => by have := HS1.out; omega), ?_⟩
  exact below8 HB2.out (g := w.heap.size + 1) (by omega) _ _ _ _ _ _ _ _
theorem rof (X : Nat → Prop) (A : Tab) (T : Nat → Tk) (last : Int) (hg : PGood A T last) (gs ts ks : Value) (w : World) (h : DP X w A T gs ts ks) (x : Int) :
    Calls Tryz.prog 42 #[pv gs ts ks last, .int .i64 x] w (OfR14 w A T x) := by
  cases hf : A.find x with
  | none => exact (rof_none X A T last hg gs ts ks w h x hf).mono fun e w' hh => ⟨fun _ => hh, fun i hi => by rw [hf] at hi; cases hi⟩
  | some i => exact (rof_some X A T last hg gs ts ks w h x i hf).mono fun e w' hh => ⟨fun hi => (by rw [hf] at hi; cases hi), fun j hj => by rw [hf] at hj; cases hj; exact hh⟩
end Go.Proofs.YtedgchafligndaaGreat
/- The program's pool: Create, Remove; no condition but those that each row names. -/
namespace Go.Proofs.YtedgchafligndaaGreat
open Go.RowKit Tsk

set_option maxHeartbeats 2000000 in
set_option maxRecDepth 100000 in
theorem plcreate_no (w : World) (bl : Nat) (p : Int) (hp : ¬ (0 ≤ p ∧ p ≤ 31)) :
    Calls Tryz.prog 18 #[.pointer (some ⟨bl, 0, none⟩), .int .i64 p] w fun e w' => e = .returned (.tuple #[.int .i64 0, errV 2]) ∧ Below w.heap.size w w' := by
  have HN := Lib.hid (fun W => pnew_no p W hp)
  clear hp
  go_enter Tryz.func18, Tryz.ntmps18
  go_wp2_with fail
  refine (HN.out _).mono ?_
  rintro e w1 ⟨rfl, hb1⟩
  rw [errV_ne (by decide)]
  have HB1 := Lib.hid hb1
  clear hb1
  go_wp2_with fail
  go_ret2
  exact ⟨rfl, HB1.out.alloc HB1.out.size _⟩
set_option maxHeartbeats 2000000 in
set_option maxRecDepth 100000 in
theorem plcreate_none (S X : Nat → Prop) (B : Nat) (A : Tab) (T : Nat → Tk) (la : Int) (hg : PGood A T la) (w : World) (v : Value) (h : Pl S X B w A T la v) (p : Int) (hp : 0 ≤ p ∧ p ≤ 31) (hf : A.free = none) :
    Calls Tryz.prog 18 #[v, .int .i64 p] w fun e w' => e = .returned (.tuple #[.int .i64 0, errV 30]) ∧ Below w.heap.size w w' := by
  have HN := Lib.hid (fun W => pnew_ok p W hp)
  obtain ⟨sl, bl, ST, tv, rfl, hc, hcl, ht, hb, rfl, hj⟩ := h.parts
  have HC := Lib.hid hc
  have HA := Lib.hid (fun W (hb : Below w.heap.size w W) => kadd_none ST B A hg.tab (tm T sl) W tv (ht.below hb) p (.slice none 0 0) kZ hf)
  obtain ⟨b, g1, c1, g2, c2, g3, c3, rfl, _⟩ := ht
  clear hcl hj hg hf hc hp hb
  go_enter Tryz.func18, Tryz.ntmps18
  go_wp2_with fail
  refine (HN.out _).mono ?_
  rintro e w1 ⟨rfl, hb1⟩
  obtain ⟨W1, hW1⟩ : ∃ W1, W1 = w1.alloc (.cells #[.int .i64 p, .slice none 0 0, .int .i64 0, .int .i64 0, .int .i64 0, .int .i64 0, .int .i64 0, .int .i64 0] KT) := ⟨_, rfl⟩
  have HB1 := Lib.hid (show Below w.heap.size w W1 from by rw [hW1]; exact hb1.alloc hb1.size _)
  have HT1 := Lib.hid (show HasT W1 w1.heap.size p (.slice none 0 0) kZ from by rw [hW1]; exact hasT_new w1 p _ kZ)
  have HW := Lib.hid hW1
  clear hW1 hb1
  go_upto_region 6 with fail
  rw [← HW.out]
  obtain ⟨x0, x1, x2, x3, x4, x5, x6, x7⟩ := HT1.out.cells
  have hc1 := (HB1.out.cell (p := ⟨bl, 0, none⟩) (cell_lt HC.out)).trans HC.out
  go_region_law (go_simp; go_at_call 47; refine (HA.out _ HB1.out.drew).mono ?_; rintro e w2 ⟨rfl, hb2⟩; rw [errV_ne (by decide)])
  all_goals
    have HB2 := Lib.hid (bnext HB1.out.drew hb2)
    clear hb2
    go_wp2_with fail
    go_ret2
    exact ⟨rfl, HB2.out⟩
set_option maxHeartbeats 2000000 in
set_option maxRecDepth 100000 in
theorem plcreate_some (S X : Nat → Prop) (B : Nat) (A : Tab) (T : Nat → Tk) (la : Int) (hg : PGood A T la) (w : World) (v : Value) (h : Pl S X B w A T la v) (hX : ∀ x, S x → X x) (p : Int) (hp : 0 ≤ p ∧ p ≤ 31) (i : Nat) (hf : A.free = some i) :
    Calls Tryz.prog 18 #[v, .int .i64 p] w (PlPost S X B w (A.addAt i 0) (upd T i (tkN p)) la v (.tuple #[.int .i64 (A.hd i), .nilIface])) := by
  have HN := Lib.hid (fun W => pnew_ok p W hp)
  obtain ⟨sl, bl, ST, tv, rfl, hc, hcl, ht, hb, hS, hj⟩ := h.parts
  have HC := Lib.hid hc
  have HA := Lib.hid (fun W (hb : Below w.heap.size w W) => kadd_some ST B A hg.tab (tm T sl) W tv (ht.below hb) p none 0 0 (fun _ => ⟨0, 0, 0, 0⟩) kZ 0 i hf)
  have HACT := Lib.hid (fun W W' (h0 : Below w.heap.size w W) (ht : PKTab ST B W' (A.addAt i 0) (upd (tm T sl) i ⟨p, .slice none 0 0, 0, fun _ => ⟨0, 0, 0, 0⟩, kZ⟩) tv) (hk : Keeps ST W W') => Pl.actA (v := .pointer (some ⟨bl, 0, none⟩)) (T := T) rfl hc hcl hb hS hj hX h0 (.slice none 0 0) ht hk (JobsX.nil X W _))
  obtain ⟨b, g1, c1, g2, c2, g3, c3, rfl, _⟩ := ht
  clear hcl hj hg hf hc hp hb hS hX
  go_enter Tryz.func18, Tryz.ntmps18
  go_wp2_with fail
  refine (HN.out _).mono ?_
  rintro e w1 ⟨rfl, hb1⟩
  obtain ⟨W1, hW1⟩ : ∃ W1, W1 = w1.alloc (.cells #[.int .i64 p, .slice none 0 0, .int .i64 0, .int .i64 0, .int .i64 0, .int .i64 0, .int .i64 0, .int .i64 0] KT) := ⟨_, rfl⟩
  have HB1 := Lib.hid (show Below w.heap.size w W1 from by rw [hW1]; exact hb1.alloc hb1.size _)
  have HT1 := Lib.hid (show HasT W1 w1.heap.size p (.slice none 0 0) kZ from by rw [hW1]; exact hasT_new w1 p _ kZ)
  have HW := Lib.hid hW1
  clear hW1 hb1
  go_upto_region 6 with fail
  rw [← HW.out]
  obtain ⟨x0, x1, x2, x3, x4, x5, x6, x7⟩ := HT1.out.cells
  have hc1 := (HB1.out.cell (p := ⟨bl, 0, none⟩) (cell_lt HC.out)).trans HC.out
  go_region_law (go_simp; go_at_call 47; refine (HA.out _ HB1.out.drew).mono ?_; rintro e w2 ⟨rfl, ht2, hk2⟩)
  all_goals
    have HR := Lib.hid (HACT.out _ _ HB1.out.drew ht2 hk2)
    clear ht2 hk2
    go_wp2_with fail
    go_ret2
    exact ⟨rfl, HR.out.1, HR.out.2⟩
theorem plcreate (S X : Nat → Prop) (B : Nat) (A : Tab) (T : Nat → Tk) (la : Int) (hg : PGood A T la) (w : World) (v : Value) (h : Pl S X B w A T la v) (hX : ∀ x, S x → X x) (p : Int) :
    Calls Tryz.prog 18 #[v, .int .i64 p] w (PlPost S X B w (addA A p) (addT A T p) la v (.tuple #[.int .i64 (addH A p), errV (addN A p)])) := by
  rcases add_ways A T p with ⟨hp, e1, e2, e3, e4⟩ | ⟨hp, hf, e1, e2, e3, e4⟩ | ⟨i, hp, hf, e1, e2, e3, e4⟩
  · rw [e1, e2, e3, e4]
    exact (by obtain ⟨bl, rfl, _⟩ := h.ptr; exact plcreate_no w bl p hp : Calls _ _ _ _ fun e w' => e = .returned (.tuple #[.int .i64 0, errV 2]) ∧ Below w.heap.size w w').mono fun e w' ⟨he, hb⟩ => ⟨he, h.below hb, Keeps.of_below hb⟩
  · rw [e1, e2, e3, e4]
    exact (plcreate_none S X B A T la hg w v h p hp hf).mono fun e w' ⟨he, hb⟩ => ⟨he, h.below hb, Keeps.of_below hb⟩
  · rw [e1, e2, e3, e4]
    exact plcreate_some S X B A T la hg w v h hX p hp i hf
set_option maxHeartbeats 2000000 in
set_option maxRecDepth 100000 in
theorem plremove (S X : Nat → Prop) (B : Nat) (A : Tab) (T : Nat → Tk) (la : Int) (hg : PGood A T la) (w : World) (v : Value) (h : Pl S X B w A T la v) (hX : ∀ x, S x → X x) (x : Int) :
    Calls Tryz.prog 17 #[v, .int .i64 x] w (PlPost S X B w (dropA A x) (dropT A T x) la v (errV (dropN A x))) := by
  have HLF := Lib.hid h
  obtain ⟨sl, bl, ST, tv, rfl, hc, hcl, ht, hb, hS, hj⟩ := h.parts
  rcases drop_ways A T x with ⟨hf, e1, e2, e3, e4⟩ | ⟨i, hf, e1, e2, e3, e4⟩
  · rw [e1, e3, e4]
    have HD := Lib.hid (kdrop_none ST B A hg.tab (tm T sl) w tv ht x hf)
    obtain ⟨b, g1, c1, g2, c2, g3, c3, rfl, _⟩ := ht
    clear hcl hj hg hf hS hb hX e1 e2 e3 e4
    go_enter Tryz.func17, Tryz.ntmps17
    go_wp2_with fail
    refine HD.out.mono ?_
    rintro e w1 ⟨rfl, hb1⟩
    have HB1 := Lib.hid hb1
    clear hb1
    go_wp2_with fail
    go_ret
    exact ⟨rfl, HLF.out.below HB1.out, Keeps.of_below HB1.out⟩
  · rw [e1, e3, e4, errV_0]
    have HD := Lib.hid (kdrop_some ST B A hg.tab (tm T sl) w tv ht x i hf)
    have HACT := Lib.hid (fun W' (ht : PKTab ST B W' (A.dropAt i) (upd (tm T sl) i tk0) tv) (hk : Keeps ST w W') => Pl.act (v := .pointer (some ⟨bl, 0, none⟩)) (T := T) rfl hc hcl hb hS hj hX (.slice none 0 0) ht hk (JobsX.nil X W' _))
    obtain ⟨b, g1, c1, g2, c2, g3, c3, rfl, _⟩ := ht
    clear hcl hj hg hf hS hb hX e1 e2 e3 e4
    go_enter Tryz.func17, Tryz.ntmps17
    go_wp2_with fail
    refine HD.out.mono ?_
    rintro e w1 ⟨rfl, ht1, hk1⟩
    have HR := Lib.hid (HACT.out w1 ht1 hk1)
    clear ht1 hk1
    go_wp2_with fail
    go_ret
    exact ⟨rfl, HR.out.1, HR.out.2⟩
end Go.Proofs.YtedgchafligndaaGreat
/- The program's pool: Of; no condition but those that each row names. -/
namespace Go.Proofs.YtedgchafligndaaGreat
open Go.RowKit Tsk

set_option maxHeartbeats 2000000 in
set_option maxRecDepth 100000 in
theorem plof_none (S X : Nat → Prop) (B : Nat) (A : Tab) (T : Nat → Tk) (la : Int) (hg : PGood A T la) (w : World) (v : Value) (h : Pl S X B w A T la v) (x : Int) (hf : A.find x = none) :
    Calls Tryz.prog 41 #[v, .int .i64 x] w fun e w' => e = .returned (.tuple #[zT, errV 20]) ∧ Below w.heap.size w w' := by
  obtain ⟨sl, bl, ST, tv, rfl, hc, hcl, ht, hb, rfl, hj⟩ := h.parts
  obtain ⟨WA, hWA⟩ : ∃ WA, WA = w.alloc (.cells #[.int .i64 0, .slice none 0 0, .int .i64 0, .int .i64 0, .int .i64 0, .int .i64 0, .int .i64 0, .int .i64 0] KT) := ⟨_, rfl⟩
  have HB := Lib.hid (show Below w.heap.size w WA from by rw [hWA]; exact (Below.refl _ _).alloc (Nat.le_refl _) _)
  have HT := Lib.hid (show HasT WA w.heap.size 0 (.slice none 0 0) kZ ∧ w.heap.size + 1 = WA.heap.size from by rw [hWA]; exact ⟨hasT_new w 0 _ kZ, by simp⟩)
  have HW := Lib.hid hWA
  have hcA := (HB.out.cell (p := ⟨bl, 0, none⟩) (cell_lt hc)).trans hc
  have HG := Lib.hid (kget_none ST B A hg.tab (tm T sl) WA tv (ht.below HB.out) x hf)
  obtain ⟨b, g1, c1, g2, c2, g3, c3, rfl, _⟩ := ht
  clear hcl hj hg hWA hf hc
  go_enter Tryz.func41, Tryz.ntmps41
  go_upto_region 1 with fail
  rw [← HW.out]
  go_wp2_with fail
  refine HG.out.mono ?_
  rintro e w1 ⟨rfl, hb1⟩
  rw [errV_ne (by decide)]
  have HB1 := Lib.hid (bnext HB.out hb1)
  have HT1 := HT.out.1.below hb1
  obtain ⟨x0, x1, x2, x3, x4, x5, x6, x7⟩ := HT1.cells
  have fr := fun j => has_free HT1 j
  have hlt := has_lt HT1
  have HL := Lib.hid (show w.heap.size ≤ w1.heap.size from by omega)
  clear HT1 hb1
  go_wp2_with fail
  refine bodyPost_ret (v := .tuple #[zT, .iface 65 (.int .i64 20)]) (by simp [results, Tryz.results41, go_sem, x0, x1, x2, x3, x4, x5, x6, x7, hlt]) rfl ⟨rfl, ?_⟩
  exact below8a HB1.out (Nat.le_refl _) HL.out _ _ _ _ _ _ _ _ _
set_option maxHeartbeats 2000000 in
set_option maxRecDepth 100000 in
theorem plof_some (S X Y : Nat → Prop) (B : Nat) (A : Tab) (T : Nat → Tk) (la : Int) (hg : PGood A T la) (w : World) (v : Value) (h : Pl S X B w A T la v) (x : Int) (hY : ∀ x, Y x → x < w.heap.size) (i : Nat) (hf : A.find x = some i) :
    Calls Tryz.prog 41 #[v, .int .i64 x] w fun e w' => ∃ s, e = .returned (.tuple #[tV (T i).p s (T i).k, .nilIface]) ∧ JobsX Y w' s (T i).n (T i).f ∧ Below w.heap.size w w' := by
  obtain ⟨sl, bl, ST, tv, rfl, hc, hcl, ht, hb, rfl, hj⟩ := h.parts
  obtain ⟨WA, hWA⟩ : ∃ WA, WA = w.alloc (.cells #[.int .i64 0, .slice none 0 0, .int .i64 0, .int .i64 0, .int .i64 0, .int .i64 0, .int .i64 0, .int .i64 0] KT) := ⟨_, rfl⟩
  have HB := Lib.hid (show Below w.heap.size w WA from by rw [hWA]; exact (Below.refl _ _).alloc (Nat.le_refl _) _)
  have HT := Lib.hid (show HasT WA w.heap.size 0 (.slice none 0 0) kZ ∧ w.heap.size + 1 = WA.heap.size from by rw [hWA]; exact ⟨hasT_new w 0 _ kZ, by simp⟩)
  have HW := Lib.hid hWA
  have hcA := (HB.out.cell (p := ⟨bl, 0, none⟩) (cell_lt hc)).trans hc
  have HG := Lib.hid (kget_some ST B A hg.tab (tm T sl) WA tv (ht.below HB.out) (isSl_tm (w := w) hj) x i hf)
  dsimp only [tm] at HG
  have HJ := Lib.hid (hj i).1
  obtain ⟨⟨q0, cap0, hs, _⟩, _⟩ := hj i
  rw [hs] at HG HJ
  have hok := (hg.ok i).2.1
  have HY := Lib.hid hY
  obtain ⟨t, hti⟩ : ∃ t, t = T i := ⟨_, rfl⟩
  rw [← hti] at HG HJ hok ⊢
  obtain ⟨b, g1, c1, g2, c2, g3, c3, rfl, _⟩ := ht
  clear hcl hj hg hWA hf hc hs hti hY
  obtain ⟨tp, ts, tn, tf, ⟨kg, ko, kn, kd, kc, kt⟩⟩ := t
  dsimp only at HG HJ hok ⊢
  have HTW := Lib.hid (fun W (hb : Below w.heap.size w W) => jtwin tp (.slice q0 tn cap0) tn tf ⟨kg, ko, kn, kd, kc, kt⟩ W (HJ.out.below hb) (by omega))
  have HK := Lib.hid hok
  clear hok
  go_enter Tryz.func41, Tryz.ntmps41
  go_upto_region 1 with fail
  rw [← HW.out]
  go_wp2_with fail
  refine HG.out.mono ?_
  rintro e w1 ⟨rfl, hb1⟩
  have HB1 := Lib.hid (bnext HB.out hb1)
  have HT1 := Lib.hid (HT.out.1.below hb1)
  clear hb1
  go_wp2_with fail
  refine (HTW.out _ (HB1.out.alloc HB1.out.size _)).mono ?_
  rintro e w2 ⟨y, rfl, q2, c2', rfl, ho, hb2⟩
  have HO := Lib.hid ho
  have HB2 := Lib.hid (bnext (HB1.out.alloc HB1.out.size _) hb2)
  have HT2 := HasT.below (has_old HT1.out _) hb2
  obtain ⟨x0, x1, x2, x3, x4, x5, x6, x7⟩ := HT2.cells
  have fr := fun j => has_free HT2 j
  have HL := Lib.hid (show w.heap.size < w1.heap.size from has_lt HT1.out)
  clear HT2 hb2 ho
  go_wp2_with fail
  refine bodyPost_ret (v := .tuple #[tV tp (.slice q2 tn c2') ⟨kg, ko, kn, kd, kc, kt⟩, .nilIface]) (by simp [results, Tryz.results41, go_sem, x0, x1, x2, x3, x4, x5, x6, x7]) rfl ⟨.slice q2 tn c2', rfl, ?_, below8 HB2.out (Nat.le_refl _) _ _ _ _ _ _ _ _⟩
  have hl := HL.out
  exact JobsX.own (own_low8 HO.out (by simp; omega) _ _ _ _ _ _ _ _) (by have := HK.out; omega) (fun x hx => by have := HY.out x hx; simp; omega)
end Go.Proofs.YtedgchafligndaaGreat
/- What the laws' own Run carries: the document's pool, the handles that were given, the time; pick; no condition but those that each row names. -/
namespace Go.Proofs.YtedgchafligndaaGreat
open Go.RowKit Tsk

abbrev RT14 : TypeId := 50
abbrev AT14 : TypeId := 54
abbrev runv (gs ts ks : Value) (la : Int) (wv : Value) (now : Int) : Value := .agg #[gs, ts, ks, .int .i64 la, wv, .int .i64 now]
abbrev av7 (k i p l c a d : Int) : Value := .agg #[.int .i64 k, .int .i64 i, .int .i64 p, .int .i64 l, .int .i64 c, .int .i64 a, .int .i64 d]
/-- A Run in a block of its own. -/
def HasR (W : World) (g : Nat) (gs ts ks : Value) (la : Int) (wv : Value) (now : Int) : Prop := Has W g (.cells #[gs, ts, ks, .int .i64 la, wv, .int .i64 now] RT14 (0, 0))
theorem HasR.below {W W' : World} {g : Nat} {gs ts ks : Value} {la : Int} {wv : Value} {now : Int} (h : HasR W g gs ts ks la wv now) (hb : Below W.heap.size W W') : HasR W' g gs ts ks la wv now := (hb.block g (has_lt h)).trans h
theorem HasR.cells {W : World} {g : Nat} {gs ts ks : Value} {la : Int} {wv : Value} {now : Int} (h : HasR W g gs ts ks la wv now) : W.cell? ⟨g, 0, none⟩ = some gs ∧ W.cell? ⟨g, 1, none⟩ = some ts ∧ W.cell? ⟨g, 2, none⟩ = some ks ∧ W.cell? ⟨g, 3, none⟩ = some (.int .i64 la) ∧ W.cell? ⟨g, 4, none⟩ = some wv ∧ W.cell? ⟨g, 5, none⟩ = some (.int .i64 now) :=
  ⟨(has_cell h 0).trans rfl, (has_cell h 1).trans rfl, (has_cell h 2).trans rfl, (has_cell h 3).trans rfl, (has_cell h 4).trans rfl, (has_cell h 5).trans rfl⟩
theorem hasR_new (w : World) (gs ts ks : Value) (la : Int) (wv : Value) (now : Int) : HasR (w.alloc (.cells #[gs, ts, ks, .int .i64 la, wv, .int .i64 now] RT14)) w.heap.size gs ts ks la wv now := has_new _ _ _ rfl
theorem arr6_4 (u0 u1 u2 u3 u4 u5 v0 v1 v2 v3 : Value) : (((#[u0, u1, u2, u3, u4, u5].setIfInBounds 0 v0).setIfInBounds 1 v1).setIfInBounds 2 v2).setIfInBounds 3 v3 = #[v0, v1, v2, v3, u4, u5] := by
  rw [← Array.toList_inj, Array.toList_setIfInBounds, Array.toList_setIfInBounds, Array.toList_setIfInBounds, Array.toList_setIfInBounds]; rfl
theorem arr6_1 (u0 u1 u2 u3 u4 u5 v : Value) : #[u0, u1, u2, u3, u4, u5].setIfInBounds 4 v = #[u0, u1, u2, u3, v, u5] := by rw [← Array.toList_inj, Array.toList_setIfInBounds]; rfl
theorem arr6_5 (u0 u1 u2 u3 u4 u5 v : Value) : #[u0, u1, u2, u3, u4, u5].setIfInBounds 5 v = #[u0, u1, u2, u3, u4, v] := by rw [← Array.toList_inj, Array.toList_setIfInBounds]; rfl
theorem arr6_6 (u0 u1 u2 u3 u4 u5 v0 v1 v2 v3 v4 v5 : Value) : (((((#[u0, u1, u2, u3, u4, u5].setIfInBounds 0 v0).setIfInBounds 1 v1).setIfInBounds 2 v2).setIfInBounds 3 v3).setIfInBounds 4 v4).setIfInBounds 5 v5 = #[v0, v1, v2, v3, v4, v5] := by
  rw [← Array.toList_inj, Array.toList_setIfInBounds, Array.toList_setIfInBounds, Array.toList_setIfInBounds, Array.toList_setIfInBounds, Array.toList_setIfInBounds, Array.toList_setIfInBounds]; rfl
abbrev st4 (W : World) (g : Nat) (v0 v1 v2 v3 : Value) : World := (((W.setCell ⟨g, 0, none⟩ v0).setCell ⟨g, 1, none⟩ v1).setCell ⟨g, 2, none⟩ v2).setCell ⟨g, 3, none⟩ v3
abbrev st6 (W : World) (g : Nat) (v0 v1 v2 v3 v4 v5 : Value) : World := (((((W.setCell ⟨g, 0, none⟩ v0).setCell ⟨g, 1, none⟩ v1).setCell ⟨g, 2, none⟩ v2).setCell ⟨g, 3, none⟩ v3).setCell ⟨g, 4, none⟩ v4).setCell ⟨g, 5, none⟩ v5
theorem HasR.setM {W : World} {g : Nat} {gs ts ks gs' ts' ks' : Value} {la la' : Int} {wv : Value} {now : Int} (h : HasR W g gs ts ks la wv now) : HasR (st4 W g gs' ts' ks' (.int .i64 la')) g gs' ts' ks' la' wv now := by
  have a := has_set (has_set (has_set (has_set h 0 gs') 1 ts') 2 ks') 3 (.int .i64 la')
  rwa [arr6_4] at a
theorem HasR.setW {W : World} {g : Nat} {gs ts ks : Value} {la : Int} {wv wv' : Value} {now : Int} (h : HasR W g gs ts ks la wv now) : HasR (W.setCell ⟨g, 4, none⟩ wv') g gs ts ks la wv' now := by
  have a := has_set h 4 wv'
  rwa [arr6_1] at a
theorem HasR.setN {W : World} {g : Nat} {gs ts ks : Value} {la : Int} {wv : Value} {now now' : Int} (h : HasR W g gs ts ks la wv now) : HasR (W.setCell ⟨g, 5, none⟩ (.int .i64 now')) g gs ts ks la wv now' := by
  have a := has_set h 5 (.int .i64 now')
  rwa [arr6_5] at a
theorem HasR.set6 {W : World} {g : Nat} {gs ts ks gs' ts' ks' : Value} {la la' : Int} {wv wv' : Value} {now now' : Int} (h : HasR W g gs ts ks la wv now) : HasR (st6 W g gs' ts' ks' (.int .i64 la') wv' (.int .i64 now')) g gs' ts' ks' la' wv' now' := by
  have a := has_set (has_set (has_set (has_set (has_set (has_set h 0 gs') 1 ts') 2 ks') 3 (.int .i64 la')) 4 wv') 5 (.int .i64 now')
  rwa [arr6_6] at a
theorem keeps_st4 {R : Nat → Prop} {g : Nat} {w W : World} (h : Keeps R w W) (hg : R g ∨ w.heap.size ≤ g) (v0 v1 v2 v3 : Value) : Keeps R w (st4 W g v0 v1 v2 v3) := (((h.setCell _ _ hg).setCell _ _ hg).setCell _ _ hg).setCell _ _ hg
theorem keeps_st6 {R : Nat → Prop} {g : Nat} {w W : World} (h : Keeps R w W) (hg : R g ∨ w.heap.size ≤ g) (v0 v1 v2 v3 v4 v5 : Value) : Keeps R w (st6 W g v0 v1 v2 v3 v4 v5) := (((((h.setCell _ _ hg).setCell _ _ hg).setCell _ _ hg).setCell _ _ hg).setCell _ _ hg).setCell _ _ hg
theorem below_st4 {B g : Nat} {w W : World} (h : Below B w W) (hg : B ≤ g) (v0 v1 v2 v3 : Value) : Below B w (st4 W g v0 v1 v2 v3) := below_low (below_low (below_low (below_low h _ _ hg) _ _ hg) _ _ hg) _ _ hg
/-- An act in a block of its own. -/
def HasAct (W : World) (g : Nat) (k i p l c a d : Int) : Prop := Has W g (.cells #[.int .i64 k, .int .i64 i, .int .i64 p, .int .i64 l, .int .i64 c, .int .i64 a, .int .i64 d] AT14 (0, 0))
theorem HasAct.below {W W' : World} {g : Nat} {k i p l c a d : Int} (h : HasAct W g k i p l c a d) (hb : Below W.heap.size W W') : HasAct W' g k i p l c a d := (hb.block g (has_lt h)).trans h
theorem HasAct.cells {W : World} {g : Nat} {k i p l c a d : Int} (h : HasAct W g k i p l c a d) : W.cell? ⟨g, 0, none⟩ = some (.int .i64 k) ∧ W.cell? ⟨g, 1, none⟩ = some (.int .i64 i) ∧ W.cell? ⟨g, 2, none⟩ = some (.int .i64 p) ∧ W.cell? ⟨g, 3, none⟩ = some (.int .i64 l) ∧ W.cell? ⟨g, 4, none⟩ = some (.int .i64 c) ∧ W.cell? ⟨g, 5, none⟩ = some (.int .i64 a) ∧ W.cell? ⟨g, 6, none⟩ = some (.int .i64 d) :=
  ⟨(has_cell h 0).trans rfl, (has_cell h 1).trans rfl, (has_cell h 2).trans rfl, (has_cell h 3).trans rfl, (has_cell h 4).trans rfl, (has_cell h 5).trans rfl, (has_cell h 6).trans rfl⟩
/-- The handle that an act means. -/
def pkH (L : List Int) (i : Int) : Int := if L = [] ∨ i < 0 then i else L.getD (i.tmod L.length).toNat 0
set_option maxHeartbeats 1000000 in
set_option maxRecDepth 100000 in
theorem pick_any (gs ts ks wv : Value) (la now i : Int) (L : List Int) (w : World) (h : Lst (fun _ => False) w wv (ints L)) :
    Calls Tryz.prog 37 #[runv gs ts ks la wv now, .int .i64 i] w fun e w' => e = .returned (.int .i64 (pkH L i)) ∧ Below w.heap.size w w' := by
  obtain ⟨p, cp, rfl, hm, hc⟩ := h
  rw [ints_len] at hm ⊢
  have HC := Lib.hid hc
  obtain ⟨WA, hWA⟩ : ∃ WA, WA = w.alloc (.cells #[gs, ts, ks, .int .i64 la, .slice p L.length cp, .int .i64 now] RT14) := ⟨_, rfl⟩
  have HB := Lib.hid (show Below w.heap.size w WA from by rw [hWA]; exact (Below.refl _ _).alloc (Nat.le_refl _) _)
  have HR := Lib.hid (show HasR WA w.heap.size gs ts ks la (.slice p L.length cp) now from by rw [hWA]; exact hasR_new _ _ _ _ _ _ _)
  have HW := Lib.hid hWA
  clear hWA hc
  go_enter Tryz.func37, Tryz.ntmps37
  go_upto_region 1 with fail
  rw [← HW.out]
  obtain ⟨a0, a1, a2, a3, a4, a5⟩ := HR.out.cells
  by_cases h0 : L.length = 0
  · have hE : L = [] := List.eq_nil_of_length_eq_zero h0
    have HP := Lib.hid (show pkH L i = i from if_pos (.inl hE))
    subst hE
    rw [List.length_nil] at a4 HR ⊢
    go_wp2_with fail
    go_ret
    exact ⟨ret_int HP.out.symm, HB.out⟩
  · have hd : ((L.length : Int) == 0) = false := by rw [beq_eq_false_iff_ne]; omega
    by_cases hi : i < 0
    · have HP := Lib.hid (show pkH L i = i from if_pos (.inr hi))
      generalize L.length = n at *
      go_wp2_with fail
      go_ret
      exact ⟨ret_int HP.out.symm, HB.out⟩
    · have hj := Int.tmod_lt_of_pos i (show (0 : Int) < (L.length : Int) by omega)
      have hj0 := Int.tmod_nonneg (L.length : Int) (show 0 ≤ i by omega)
      have HP := Lib.hid (show pkH L i = L.getD (i.tmod L.length).toNat 0 from if_neg (by rintro (h | h); exact h0 (by rw [h]; rfl); exact hi h))
      obtain ⟨j, hjj⟩ := Int.eq_ofNat_of_zero_le hj0
      rw [hjj, Int.toNat_natCast] at HP
      rw [hjj] at hj
      obtain ⟨b, off, rfl, _, hcell⟩ := HC.out j _ (ints_at (show j < L.length by omega))
      have hcb := (HB.out.cell (p := ⟨b, off + j, none⟩) (cell_lt hcell)).trans hcell
      generalize L.getD j 0 = y at *
      have z0 : (0 : Int) ≤ (j : Int) := by omega
      have HJJ := Lib.hid hjj
      have hne : ¬ (L.length : Int) = 0 := by omega
      clear hcell hj0
      go_wp2_with fail
      go_region
      all_goals
        go_wp2_with fail
        go_ret
        exact ⟨ret_int HP.out.symm, HB.out.drew⟩
end Go.Proofs.YtedgchafligndaaGreat
/- What the laws' own do begins with and leaves; no condition but those that each row names. -/
namespace Go.Proofs.YtedgchafligndaaGreat
open Go.RowKit Tsk

/-- A pool under way: the program's and the document's, the handles that were given. -/
structure Ro (S X : Nat → Prop) (B : Nat) (w : World) (A : Tab) (T : Nat → Tk) (la : Int) (v gs ts ks wv : Value) (L : List Int) : Prop where
  pi : PI A T la
  pl : Pl S X B w A T la v
  dp : DP X w A T gs ts ks
  row : w.ownsRow B HTy 1 wv L.length (ints L)
  sx : ∀ x, S x → X x
  rx : ∀ g, wv.ownBlock = some g → X g
  rs : ∀ g, wv.ownBlock = some g → ¬ S g
  xw : ∀ x, X x → x < w.heap.size
theorem Ro.below {S X : Nat → Prop} {B : Nat} {w W : World} {A : Tab} {T : Nat → Tk} {la : Int} {v gs ts ks wv : Value} {L : List Int} (h : Ro S X B w A T la v gs ts ks wv L) (hb : Below w.heap.size w W) : Ro S X B W A T la v gs ts ks wv L :=
  ⟨h.pi, h.pl.below hb, h.dp.below hb, own_under h.row hb, h.sx, h.rx, h.rs, fun x hx => Nat.lt_of_lt_of_le (h.xw x hx) hb.size⟩
theorem Ro.keeps {S X Q : Nat → Prop} {B : Nat} {w W : World} {A : Tab} {T : Nat → Tk} {la : Int} {v gs ts ks wv : Value} {L : List Int} (h : Ro S X B w A T la v gs ts ks wv L) (hk : Keeps Q w W) (hq : ∀ x, Q x → X x) (hs : ∀ x, S x → ¬ Q x) (hr : ∀ g, wv.ownBlock = some g → ¬ Q g) : Ro S X B W A T la v gs ts ks wv L :=
  ⟨h.pi, h.pl.keeps hk hs hq, h.dp.keeps (hk.mono hq), own_keep h.row hk hr, h.sx, h.rx, h.rs, fun x hx => Nat.lt_of_lt_of_le (h.xw x hx) hk.size⟩
/-- The same, nothing of it in blocks that aren't there yet. -/
theorem Ro.wide {S X Y : Nat → Prop} {B : Nat} {w : World} {A : Tab} {T : Nat → Tk} {la : Int} {v gs ts ks wv : Value} {L : List Int} (h : Ro S X B w A T la v gs ts ks wv L) (hy : ∀ x, x < w.heap.size → Y x → X x) (hx : ∀ x, X x → Y x) {W : World} (hb : Below w.heap.size w W) (hW : ∀ x, Y x → x < W.heap.size) : Ro S Y B W A T la v gs ts ks wv L :=
  ⟨h.pi, (h.pl.mono hy).below hb, (h.dp.mono hy).below hb, own_under h.row hb, fun x q => hx x (h.sx x q), fun g e => hx g (h.rx g e), h.rs, hW⟩
abbrev N0 : Value := .slice none 0 0
/-- The blocks of do's own variables besides. -/
abbrev XZ (X : Nat → Prop) (w : World) : Nat → Prop := fun x => X x ∨ (w.heap.size ≤ x ∧ x < w.heap.size + 3)
/-- Where do begins. -/
structure Beg (w : World) (gs ts ks : Value) (la : Int) (wv : Value) (now k i p l c a d : Int) (W : World) : Prop where
  r : HasR W w.heap.size gs ts ks la wv now
  o : HasAct W (w.heap.size + 1) k i p l c a d
  z : HasR W (w.heap.size + 1 + 1) N0 N0 N0 0 N0 0
theorem Beg.below {w : World} {gs ts ks : Value} {la : Int} {wv : Value} {now k i p l c a d : Int} {W W' : World} (h : Beg w gs ts ks la wv now k i p l c a d W) (hb : Below W.heap.size W W') : Beg w gs ts ks la wv now k i p l c a d W' := ⟨h.r.below hb, h.o.below hb, h.z.below hb⟩
theorem Beg.keeps {Q : Nat → Prop} {w : World} {gs ts ks : Value} {la : Int} {wv : Value} {now k i p l c a d : Int} {W W' : World} (h : Beg w gs ts ks la wv now k i p l c a d W) (hk : Keeps Q W W') (hq : ∀ x, Q x → x < w.heap.size) : Beg w gs ts ks la wv now k i p l c a d W' :=
  ⟨has_keeps h.r hk (fun q => by have := hq _ q; omega), has_keeps h.o hk (fun q => by have := hq _ q; omega), has_keeps h.z hk (fun q => by have := hq _ q; omega)⟩
theorem Beg.setM {w : World} {gs ts ks gs' ts' ks' : Value} {la la' : Int} {wv : Value} {now k i p l c a d : Int} {W : World} (h : Beg w gs ts ks la wv now k i p l c a d W) : Beg w gs' ts' ks' la' wv now k i p l c a d (st4 W w.heap.size gs' ts' ks' (.int .i64 la')) :=
  ⟨h.r.setM, has_keeps h.o (keeps_st4 (R := fun x => x = w.heap.size) (Keeps.refl _ W) (.inl rfl) _ _ _ _) (by omega), has_keeps h.z (keeps_st4 (R := fun x => x = w.heap.size) (Keeps.refl _ W) (.inl rfl) _ _ _ _) (by omega)⟩
abbrev begW (w : World) (gs ts ks : Value) (la : Int) (wv : Value) (now k i p l c a d : Int) : World :=
  ((w.alloc (.cells #[gs, ts, ks, .int .i64 la, wv, .int .i64 now] RT14)).alloc (.cells #[.int .i64 k, .int .i64 i, .int .i64 p, .int .i64 l, .int .i64 c, .int .i64 a, .int .i64 d] AT14)).alloc (.cells #[N0, N0, N0, .int .i64 0, N0, .int .i64 0] RT14)
theorem beg_new (w : World) (gs ts ks : Value) (la : Int) (wv : Value) (now k i p l c a d : Int) : Beg w gs ts ks la wv now k i p l c a d (begW w gs ts ks la wv now k i p l c a d) ∧ Below w.heap.size w (begW w gs ts ks la wv now k i p l c a d) ∧ (begW w gs ts ks la wv now k i p l c a d).heap.size = w.heap.size + 3 :=
  ⟨⟨has_old (has_old (hasR_new _ _ _ _ _ _ _) _) _, has_old (has_new _ _ _ (by simp)) _, has_new _ _ _ (by simp)⟩, (((Below.refl _ _).alloc (Nat.le_refl _) _).alloc (by simp) _).alloc (by simp; omega) _, by simp [begW]⟩
/-- What do leaves. -/
def DoPost (S X : Nat → Prop) (B : Nat) (w : World) (v wv : Value) (L : List Int) (e : Ending) (w' : World) : Prop :=
  ∃ X' A' T' la' gs' ts' ks' wv' L' now', e = .returned (.tuple #[runv gs' ts' ks' la' wv' now', .bool true]) ∧ Ro S X' B w' A' T' la' v gs' ts' ks' wv' L' ∧ L'.length ≤ L.length + 1 ∧ (∀ x, X x → X' x) ∧
    (∀ g, wv'.ownBlock = some g → wv.ownBlock = some g ∨ w.heap.size ≤ g) ∧ Keeps (fun x => S x ∨ wv.ownBlock = some x) w w'
/-- The kind of an act. -/
def kd (k : Int) : Int := (k.tmod 7 + 7).tmod 7
theorem kd_in (k : Int) : 0 ≤ kd k ∧ kd k < 7 := by
  unfold kd
  have h1 : (k.tmod 7).natAbs < 7 := by
    have := Int.natAbs_tmod k 7
    rw [this]
    exact Nat.mod_lt _ (by decide)
  have h2 : 0 ≤ k.tmod 7 + 7 := by omega
  exact ⟨Int.tmod_nonneg _ h2, Int.tmod_lt_of_pos _ (by decide)⟩
theorem kd_wrap (k : Int) : wrap64 (k.tmod 7 + 7) = k.tmod 7 + 7 := by
  have h1 : (k.tmod 7).natAbs < 7 := by
    have := Int.natAbs_tmod k 7
    rw [this]
    exact Nat.mod_lt _ (by decide)
  unfold wrap64
  omega
/-- Behind the document's call: its answer laid in the block of do's own Run. -/
theorem Ro.laid {S X : Nat → Prop} {B : Nat} {w w1 w2 : World} {A A' : Tab} {T T' : Nat → Tk} {la : Int} {v gs ts ks wv gs' ts' ks' : Value} {L : List Int} (h : Ro S (XZ X w) B w1 A T la v gs ts ks wv L) (h0 : Ro S X B w A T la v gs ts ks wv L) (hb : Below w1.heap.size w1 w2) (hd : DP (XZ X w) w2 A' T' gs' ts' ks') (v0 v1 v2 v3 : Value) :
    Pl S (XZ X w) B (st4 w2 w.heap.size v0 v1 v2 v3) A T la v ∧ DP (XZ X w) (st4 w2 w.heap.size v0 v1 v2 v3) A' T' gs' ts' ks' ∧ (st4 w2 w.heap.size v0 v1 v2 v3).ownsRow B HTy 1 wv L.length (ints L) ∧ (∀ x, XZ X w x → x < (st4 w2 w.heap.size v0 v1 v2 v3).heap.size) ∧ Keeps (fun x => x = w.heap.size) w1 (st4 w2 w.heap.size v0 v1 v2 v3) := by
  have k := keeps_st4 (R := fun x => x = w.heap.size) (Keeps.refl _ w2) (.inl rfl) v0 v1 v2 v3
  have hq : ∀ x, x = w.heap.size → XZ X w x := fun x e => .inr ⟨by omega, by omega⟩
  have hsz := k.size
  have hb2 := hb.size
  exact ⟨(h.pl.below hb).keeps k (fun x hx e => by have := (h0.pl.lt x hx).2; omega) hq, hd.keeps (k.mono hq), own_keep (own_under h.row hb) k (fun g e e2 => by have := h0.xw g (h0.rx g e); omega), fun x hx => by have := h.xw x hx; omega, (Keeps.of_below hb).trans k⟩
/-- Behind all: what do leaves. -/
theorem Ro.fin {S X Y : Nat → Prop} {B : Nat} {w w4 : World} {A A' : Tab} {T T' : Nat → Tk} {la la' : Int} {v gs ts ks wv gs' ts' ks' wv' : Value} {L L' : List Int} (h0 : Ro S X B w A T la v gs ts ks wv L) (hpi : PI A' T' la') (hp : Pl S Y B w4 A' T' la' v) (hd : DP Y w4 A' T' gs' ts' ks') (hr : w4.ownsRow B HTy 1 wv' L'.length (ints L')) (hl : L'.length ≤ L.length + 1)
    (hXY : ∀ x, X x → Y x) (hz : Y (w.heap.size + 1 + 1)) (hw : ∀ g, wv'.ownBlock = some g → Y g ∧ ¬ S g ∧ g ≠ w.heap.size + 1 + 1 ∧ (wv.ownBlock = some g ∨ w.heap.size ≤ g)) (hs : w.heap.size + 3 ≤ w4.heap.size) (hk : Keeps (fun x => S x ∨ wv.ownBlock = some x) w w4) (now' : Int) :
    DoPost S X B w v wv L (.returned (.tuple #[runv gs' ts' ks' la' wv' now', .bool true])) (st6 w4 (w.heap.size + 1 + 1) gs' ts' ks' (.int .i64 la') wv' (.int .i64 now')) := by
  have k := keeps_st6 (R := fun x => x = w.heap.size + 1 + 1) (Keeps.refl _ w4) (.inl rfl) gs' ts' ks' (.int .i64 la') wv' (.int .i64 now')
  have hm : ∀ x, x < w4.heap.size → (X x ∨ wv'.ownBlock = some x) → Y x := fun x _ q => by
    rcases q with q | q
    · exact hXY x q
    · exact (hw x q).1
  have hms : ∀ x, x < (st6 w4 (w.heap.size + 1 + 1) gs' ts' ks' (.int .i64 la') wv' (.int .i64 now')).heap.size → (X x ∨ wv'.ownBlock = some x) → Y x := fun x _ q => by
    rcases q with q | q
    · exact hXY x q
    · exact (hw x q).1
  have hksz := k.size
  refine ⟨fun x => X x ∨ wv'.ownBlock = some x, A', T', la', gs', ts', ks', wv', L', now', rfl, ⟨hpi, (hp.keeps k (fun x hx e => by have := (h0.pl.lt x hx).2; omega) (fun x e => e ▸ hz)).mono hms, (hd.keeps (k.mono (fun x e => e ▸ hz))).mono hms, own_keep hr k (fun g e e2 => (hw g e).2.2.1 e2), fun x hx => .inl (h0.sx x hx), fun g e => .inr e, fun g e => (hw g e).2.1, fun x q => ?_⟩, hl, fun x q => .inl q, fun g e => (hw g e).2.2.2, ?_⟩
  · rcases q with q | q
    · have := h0.xw x q; omega
    · have := (World.ownsRow.lt hr x q).2; omega
  · exact keeps_st6 hk (.inr (by omega)) _ _ _ _ _ _
end Go.Proofs.YtedgchafligndaaGreat
/- The laws' own works: two tasks of a new pool take turns; no condition. -/
namespace Go.Proofs.YtedgchafligndaaGreat
open Go.RowKit Tsk

namespace Tsk
abbrev wA0 : Tab := Tab.new 3 16
abbrev wT0 : Nat → Tk := fun _ => tk0
abbrev wA1 : Tab := addA wA0 0
abbrev wT1 : Nat → Tk := addT wA0 wT0 0
abbrev wA2 : Tab := addA wA1 0
abbrev wT2 : Nat → Tk := addT wA1 wT1 0
abbrev wT3 : Nat → Tk := pushT wA2 wT2 (mkH 3 0 1) ⟨2, 0, 0, 0⟩ 0
abbrev wT4 : Nat → Tk := pushT wA2 wT3 (mkH 3 1 1) ⟨2, 0, 0, 0⟩ 0
abbrev wT5 : Nat → Tk := gvT wA2 wT4 (-1) 0
abbrev wT6 : Nat → Tk := gvT wA2 wT5 0 1
abbrev wT7 : Nat → Tk := gvT wA2 wT6 1 2
end Tsk
theorem w_add1 : addN wA0 0 = 0 ∧ addH wA0 0 = mkH 3 0 1 := by decide +kernel
theorem w_add2 : addN wA1 0 = 0 ∧ addH wA1 0 = mkH 3 1 1 := by decide +kernel
theorem w_push1 : pushN wA2 wT2 (mkH 3 0 1) ⟨2, 0, 0, 0⟩ 0 = 0 := by decide +kernel
theorem w_push2 : pushN wA2 wT3 (mkH 3 1 1) ⟨2, 0, 0, 0⟩ 0 = 0 := by decide +kernel
theorem w_give1 : gvN wA2 wT4 (-1) 0 = 0 ∧ gvH wA2 wT4 (-1) 0 = mkH 3 0 1 := by decide +kernel
theorem w_give2 : gvN wA2 wT5 0 1 = 1 ∧ gvH wA2 wT5 0 1 = mkH 3 1 1 := by decide +kernel
theorem w_give3 : gvN wA2 wT6 1 2 = 0 ∧ gvH wA2 wT6 1 2 = mkH 3 0 1 ∧ gvW wA2 wT6 1 2 = 1 ∧ gvU wA2 wT6 1 2 = true := by decide +kernel
theorem w_ready : decide (0 ≤ nx wA2 wT7 0) = true := by decide +kernel
theorem w_drop : dropN wA2 0 = 20 ∧ (wA2.find 0 = none) := by decide +kernel
theorem w_pi1 : PI wA1 wT1 (-1) := PI.new.add 0
theorem w_pi2 : PI wA2 wT2 (-1) := w_pi1.add 0
theorem w_pi3 : PI wA2 wT3 (-1) := w_pi2.push _ _ _
theorem w_pi4 : PI wA2 wT4 (-1) := w_pi3.push _ _ _
theorem w_pi5 : PI wA2 wT5 0 := by have h := w_pi4.give 0; rw [w_give1.1] at h; exact h
theorem w_pi6 : PI wA2 wT6 1 := by have h := w_pi5.give 1; rw [w_give2.1] at h; exact h
theorem w_pi7 : PI wA2 wT7 0 := by have h := w_pi6.give 2; rw [w_give3.1] at h; exact h
set_option maxHeartbeats 2000000 in
set_option maxRecDepth 100000 in
theorem works_any (w : World) : Calls Tryz.prog 9 #[] w fun e w' => e = .returned (.bool true) ∧ Below w.heap.size w w' := by
  have HN := Lib.hid (plnew w)
  have HA1 := Lib.hid (fun S v W (h : Pl S S w.heap.size W wA0 wT0 (-1) v) => plcreate S S w.heap.size wA0 wT0 (-1) PI.new.good W v h (fun _ k => k) 0)
  have HA2 := Lib.hid (fun S v W (h : Pl S S w.heap.size W wA1 wT1 (-1) v) => plcreate S S w.heap.size wA1 wT1 (-1) w_pi1.good W v h (fun _ k => k) 0)
  have HP1 := Lib.hid (fun S v W (h : Pl S S w.heap.size W wA2 wT2 (-1) v) => (show Calls Tryz.prog 27 #[v, .int .i64 (mkH 3 0 1), jV ⟨2, 0, 0, 0⟩, .int .i64 0] W (PlPost S S w.heap.size W wA2 wT3 (-1) v (errV (pushN wA2 wT2 (mkH 3 0 1) ⟨2, 0, 0, 0⟩ 0))) from plpush S S w.heap.size wA2 wT2 (-1) w_pi2.good W v h (fun _ k => k) (fun x hx => (h.lt x hx).2) (mkH 3 0 1) ⟨2, 0, 0, 0⟩ 0))
  have HP2 := Lib.hid (fun S v W (h : Pl S S w.heap.size W wA2 wT3 (-1) v) => (show Calls Tryz.prog 27 #[v, .int .i64 (mkH 3 1 1), jV ⟨2, 0, 0, 0⟩, .int .i64 0] W (PlPost S S w.heap.size W wA2 wT4 (-1) v (errV (pushN wA2 wT3 (mkH 3 1 1) ⟨2, 0, 0, 0⟩ 0))) from plpush S S w.heap.size wA2 wT3 (-1) w_pi3.good W v h (fun _ k => k) (fun x hx => (h.lt x hx).2) (mkH 3 1 1) ⟨2, 0, 0, 0⟩ 0))
  have HG1 := Lib.hid (fun S v W (h : Pl S S w.heap.size W wA2 wT4 (-1) v) => plgive S S w.heap.size wA2 wT4 (-1) w_pi4.good W v h (fun _ k => k) (fun x hx => (h.lt x hx).2) 0)
  have HG2 := Lib.hid (fun S v W (h : Pl S S w.heap.size W wA2 wT5 0 v) => plgive S S w.heap.size wA2 wT5 0 w_pi5.good W v h (fun _ k => k) (fun x hx => (h.lt x hx).2) 1)
  have HG3 := Lib.hid (fun S v W (h : Pl S S w.heap.size W wA2 wT6 1 v) => plgive S S w.heap.size wA2 wT6 1 w_pi6.good W v h (fun _ k => k) (fun x hx => (h.lt x hx).2) 2)
  have HRD := Lib.hid (fun S v W (h : Pl S S w.heap.size W wA2 wT7 0 v) => plready S S w.heap.size wA2 wT7 0 w_pi7.good W v h)
  have HRM := Lib.hid (fun S v W (h : Pl S S w.heap.size W wA2 wT7 0 v) => plremove S S w.heap.size wA2 wT7 0 w_pi7.good W v h (fun _ k => k) 0)
  rw [w_add1.1, w_add1.2] at HA1
  rw [w_add2.1, w_add2.2] at HA2
  rw [w_push1] at HP1
  rw [w_push2] at HP2
  rw [w_give1.1, w_give1.2] at HG1
  rw [w_give2.1, w_give2.2] at HG2
  rw [w_give3.1, w_give3.2.1, w_give3.2.2.1, w_give3.2.2.2] at HG3
  rw [w_ready] at HRD
  rw [w_drop.1] at HRM
  rw [errV_0] at HA1 HA2 HP1 HP2
  generalize gvW wA2 wT4 (-1) 0 = m1 at *
  generalize gvL wA2 wT4 (-1) 0 = l1 at *
  generalize gvU wA2 wT4 (-1) 0 = b1 at *
  generalize gvW wA2 wT5 0 1 = m2 at *
  generalize gvL wA2 wT5 0 1 = l2 at *
  generalize gvU wA2 wT5 0 1 = b2 at *
  generalize gvL wA2 wT6 1 2 = l3 at *
  have hne : ((mkH 3 0 1 : Int) == mkH 3 0 1) = true := by simp
  have hne2 : ((mkH 3 1 1 : Int) == mkH 3 1 1) = true := by simp
  generalize mkH 3 0 1 = h1 at *
  generalize mkH 3 1 1 = h2 at *
  go_enter Tryz.func9, Tryz.ntmps9
  go_wp2_with fail
  refine HN.out.mono ?_
  rintro e w1 ⟨S, v, rfl, hL, hb1⟩
  have H1 := Lib.hid (hL S)
  have HB1 := Lib.hid hb1
  obtain ⟨bl, rfl, _⟩ := (hL S).ptr
  have HSL := Lib.hid (fun x (hx : S x) => (H1.out.lt x hx).1)
  clear hL hb1
  go_wp2_with fail
  refine (HA1.out S _ w1 H1.out).mono ?_
  rintro e w2 ⟨rfl, h2', k2⟩
  have H2 := Lib.hid h2'
  have HB2 := Lib.hid (below_keeps HB1.out k2 HSL.out)
  clear h2' k2
  go_wp2_with fail
  refine (HA2.out S _ w2 H2.out).mono ?_
  rintro e w3 ⟨rfl, h3', k3⟩
  have H3 := Lib.hid h3'
  have HB3 := Lib.hid (below_keeps HB2.out k3 HSL.out)
  clear h3' k3
  go_wp2_with fail
  refine (HP1.out S _ w3 H3.out).mono ?_
  rintro e w4 ⟨rfl, h4', k4⟩
  have H4 := Lib.hid h4'
  have HB4 := Lib.hid (below_keeps HB3.out k4 HSL.out)
  clear h4' k4
  go_wp2_with fail
  refine (HP2.out S _ w4 H4.out).mono ?_
  rintro e w5 ⟨rfl, h5', k5⟩
  have H5 := Lib.hid h5'
  have HB5 := Lib.hid (below_keeps HB4.out k5 HSL.out)
  clear h5' k5
  go_wp2_with fail
  refine (HG1.out S _ w5 H5.out).mono ?_
  rintro e w6 ⟨rfl, h6', k6⟩
  have H6 := Lib.hid h6'
  have HB6 := Lib.hid (below_keeps HB5.out k6 HSL.out)
  clear h6' k6
  go_wp2_with fail
  refine (HG2.out S _ w6 H6.out).mono ?_
  rintro e w7 ⟨rfl, h7', k7⟩
  have H7 := Lib.hid h7'
  have HB7 := Lib.hid (below_keeps HB6.out k7 HSL.out)
  clear h7' k7
  go_wp2_with fail
  refine (HG3.out S _ w7 H7.out).mono ?_
  rintro e w8 ⟨rfl, h8', k8⟩
  have H8 := Lib.hid h8'
  have HB8 := Lib.hid (below_keeps HB7.out k8 HSL.out)
  clear h8' k8
  go_wp2_with fail
  refine (HRD.out S _ w8 H8.out).mono ?_
  rintro e w9 ⟨rfl, hb9⟩
  have H9 := Lib.hid (H8.out.below hb9)
  have HB9 := Lib.hid (bnext HB8.out hb9)
  clear hb9
  rw [errV_ne (by decide)] at HRM
  have HNU := Lib.hid (fun W => num_errno 20 W)
  go_wp2_with fail
  refine (HRM.out S _ w9 H9.out).mono ?_
  rintro e w10 ⟨rfl, _, k10⟩
  have HB10 := Lib.hid (below_keeps HB9.out k10 HSL.out)
  clear k10
  go_wp2_with fail
  refine (HNU.out w10).mono ?_
  rintro e w11 ⟨rfl, rfl⟩
  go_wp2_with fail
  go_ret
  exact ⟨rfl, HB10.out⟩
end Go.Proofs.YtedgchafligndaaGreat
/- A Pool that there is not; no condition. -/
namespace Go.Proofs.YtedgchafligndaaGreat
open Go.RowKit Tsk

abbrev nilP : Value := .pointer none
theorem nl_create (p : Int) (w : World) : Calls Tryz.prog 18 #[nilP, .int .i64 p] w fun e w' => e = .returned (.tuple #[.int .i64 0, errV 50]) ∧ Below w.heap.size w w' := by
  rw [errV_ne (by decide)]
  go_enter Tryz.func18, Tryz.ntmps18
  go_wp2_with fail
  go_ret2
  exact ⟨rfl, Below.refl _ _⟩
theorem nl_remove (x : Int) (w : World) : Calls Tryz.prog 17 #[nilP, .int .i64 x] w fun e w' => e = .returned (errV 50) ∧ Below w.heap.size w w' := by
  rw [errV_ne (by decide)]
  go_enter Tryz.func17, Tryz.ntmps17
  go_wp2_with fail
  go_ret
  exact ⟨rfl, Below.refl _ _⟩
theorem nl_push (x : Int) (j : Jb) (now : Int) (w : World) : Calls Tryz.prog 27 #[nilP, .int .i64 x, jV j, .int .i64 now] w fun e w' => e = .returned (errV 50) ∧ Below w.heap.size w w' := by
  rw [errV_ne (by decide)]
  obtain ⟨jl, jc, ja, jd⟩ := j
  go_enter Tryz.func27, Tryz.ntmps27
  go_wp2_with fail
  go_ret
  exact ⟨rfl, (Below.refl _ _).alloc (Nat.le_refl _) _⟩
set_option maxHeartbeats 1000000 in
theorem nl_of (x : Int) (w : World) : Calls Tryz.prog 41 #[nilP, .int .i64 x] w fun e w' => e = .returned (.tuple #[zT, errV 50]) ∧ Below w.heap.size w w' := by
  rw [errV_ne (by decide)]
  go_enter Tryz.func41, Tryz.ntmps41
  go_wp2_with fail
  refine bodyPost_ret (v := .tuple #[zT, .iface 65 (.int .i64 50)]) (by simp [results, Tryz.results41, go_sem]) rfl ⟨rfl, ?_⟩
  exact (Below.refl _ _).alloc (Nat.le_refl _) _
theorem nl_list (w : World) : Calls Tryz.prog 16 #[nilP] w fun e w' => e = .returned (.slice none 0 0) ∧ Below w.heap.size w w' := by
  go_enter Tryz.func16, Tryz.ntmps16
  go_wp2_with fail
  go_ret
  exact ⟨rfl, Below.refl _ _⟩
theorem nl_next (w : World) : Calls Tryz.prog 33 #[nilP] w fun e w' => e = .returned (.tuple #[.int .i64 0, .bool false]) ∧ Below w.heap.size w w' := by
  go_enter Tryz.func33, Tryz.ntmps33
  go_wp2_with fail
  go_step3
  go_wp2_with fail
  rw [Exit.noGoto_ret]
  go_ret2
  exact ⟨rfl, Below.refl _ _⟩
theorem nl_ready (w : World) : Calls Tryz.prog 29 #[nilP] w fun e w' => e = .returned (.bool false) ∧ Below w.heap.size w w' := by
  have HN := Lib.hid (nl_next w)
  go_enter Tryz.func29, Tryz.ntmps29
  go_wp2_with fail
  refine HN.out.mono ?_
  rintro e w1 ⟨rfl, hb1⟩
  have HB1 := Lib.hid hb1
  clear hb1
  go_wp2_with fail
  go_ret
  exact ⟨rfl, HB1.out⟩
theorem nl_give (now : Int) (w : World) : Calls Tryz.prog 28 #[nilP, .int .i64 now] w fun e w' => e = .returned (.tuple #[.int .i64 0, .int .i64 0, .int .i64 0, .bool false]) ∧ Below w.heap.size w w' := by
  have HN := Lib.hid (nl_next w)
  go_enter Tryz.func28, Tryz.ntmps28
  go_wp2_with fail
  refine HN.out.mono ?_
  rintro e w1 ⟨rfl, hb1⟩
  have HB1 := Lib.hid hb1
  clear hb1
  go_wp2_with fail
  refine bodyPost_ret (v := .tuple #[.int .i64 0, .int .i64 0, .int .i64 0, .bool false]) (by simp [results, Tryz.results28, go_sem]) rfl ⟨rfl, ?_⟩
  exact HB1.out
theorem nl_save (w : World) : Calls Tryz.prog 30 #[nilP] w fun e w' => e = .returned (.tuple #[.slice none 0 0, .slice none 0 0, .slice none 0 0, .int .i64 0]) ∧ Below w.heap.size w w' := by
  go_enter Tryz.func30, Tryz.ntmps30
  go_wp2_with fail
  refine bodyPost_ret (v := .tuple #[.slice none 0 0, .slice none 0 0, .slice none 0 0, .int .i64 0]) (by simp [results, Tryz.results30, go_sem]) rfl ⟨rfl, ?_⟩
  exact Below.refl _ _
theorem nl_twin (w : World) : Calls Tryz.prog 15 #[nilP] w fun e w' => e = .returned nilP ∧ Below w.heap.size w w' := by
  go_enter Tryz.func15, Tryz.ntmps15
  go_wp2_with fail
  go_ret
  exact ⟨rfl, Below.refl _ _⟩
end Go.Proofs.YtedgchafligndaaGreat
