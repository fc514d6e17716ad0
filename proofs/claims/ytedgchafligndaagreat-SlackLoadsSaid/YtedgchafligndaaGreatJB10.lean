/- Texts of stages 3, 4, 12, 13 and 14 that stand together: JPush JNext JGive ZRefQ; no condition but those that each row names. -/
import Derived.Test.YtedgchafligndaaGreatJB6
import Derived.Test.YtedgchafligndaaGreatJB8
import Derived.Test.YtedgchafligndaaGreatJB9
import Derived.Deep.Quiet
import Derived.Deep.QuietTactic
/- The document's own pool: Push; no condition but those that each row names. -/
namespace Go.Proofs.YtedgchafligndaaGreat
open Go.RowKit Tsk

theorem Own14.lower {B B' : Nat} {w : World} {gl : List Int} {tl : List Bool} {T : Nat → Tk} {gs ts ks : Value} {sl : Nat → Value} (h : Own14 B w gl tl T gs ts ks sl) (hb : B' ≤ B) : Own14 B' w gl tl T gs ts ks sl :=
  ⟨h.g.mono hb, h.t.mono hb, h.k.mono hb, fun i hi => (h.j i hi).mono (fun x _ q => by rcases q with q | q | q | q; exact .inl (by omega); exact .inr (.inl q); exact .inr (.inr (.inl q)); exact .inr (.inr (.inr q))), h.n12, h.n13, h.n23⟩
/-- Behind the call of titheref12.Push. -/
def PB14 (w : World) (gs ts ks : Value) (last : Int) (tp : Int) (tn : Nat) (tf : Nat → Jb) (k : Ac) (b : Nat) (wx : World) : Prop :=
  ∃ s2 c2, HasT wx b tp (.slice s2 tn c2) k ∧ JobsX (fun x => x < w.heap.size + 3) wx (.slice s2 tn c2) tn tf ∧ Below w.heap.size w wx ∧ HasP wx w.heap.size gs ts ks last ∧ HasP wx (w.heap.size + 1 + 1) (.slice none 0 0) (.slice none 0 0) (.slice none 0 0) 0 ∧ w.heap.size + 3 ≤ b
theorem PB14.a {w W0 w2 : World} {gs ts ks : Value} {last tp : Int} {tn : Nat} {tf : Nat → Jb} {k : Ac} {s2 : Option Addr} {c2 : Nat} (h0 : Below w.heap.size w W0) (hs : w.heap.size + 3 ≤ W0.heap.size) (l1 : HasP W0 w.heap.size gs ts ks last) (l2 : HasP W0 (w.heap.size + 1 + 1) (.slice none 0 0) (.slice none 0 0) (.slice none 0 0) 0)
    (hq : Below W0.heap.size W0 w2) (ho : JobsO W0.heap.size w2 (.slice s2 tn c2) tn tf) (hn : tn ≤ 9223372036854775807) : PB14 w gs ts ks last tp tn tf k w2.heap.size (w2.alloc (.cells #[.int .i64 tp, .slice s2 tn c2, .int .i64 k.g, .int .i64 k.o, .int .i64 k.n, .int .i64 k.d, .int .i64 k.c, .int .i64 k.t] KT)) := by
  have ha : Below w2.heap.size w2 (w2.alloc (.cells #[.int .i64 tp, .slice s2 tn c2, .int .i64 k.g, .int .i64 k.o, .int .i64 k.n, .int .i64 k.d, .int .i64 k.c, .int .i64 k.t] KT)) := (Below.refl _ _).alloc (Nat.le_refl _) _
  refine ⟨s2, c2, hasT_new w2 tp _ k, (JobsX.own ho hn (fun x hx => by omega)).below ha, bnext (bnext h0 hq) ha, has_old (l1.below hq) _, has_old (l2.below hq) _, ?_⟩
  have := hq.size
  omega
theorem PB14.b {w W0 w2 : World} {gs ts ks : Value} {last tp tp0 : Int} {tn : Nat} {tf : Nat → Jb} {k k0 : Ac} {s0 : Value} {s2 : Option Addr} {c2 b : Nat} (h0 : Below w.heap.size w W0) (hs : w.heap.size + 3 ≤ b) (hbl : b < W0.heap.size) (l1 : HasP W0 w.heap.size gs ts ks last) (l2 : HasP W0 (w.heap.size + 1 + 1) (.slice none 0 0) (.slice none 0 0) (.slice none 0 0) 0)
    (hq : Below W0.heap.size W0 w2) (hT : HasT w2 b tp0 s0 k0) (ho : JobsO W0.heap.size w2 (.slice s2 tn c2) tn tf) (hn : tn ≤ 9223372036854775807) : PB14 w gs ts ks last tp tn tf k b ((((((((w2.setCell ⟨b, 0, none⟩ (.int .i64 tp)).setCell ⟨b, 1, none⟩ (.slice s2 tn c2)).setCell ⟨b, 2, none⟩ (.int .i64 k.g)).setCell ⟨b, 3, none⟩ (.int .i64 k.o)).setCell ⟨b, 4, none⟩ (.int .i64 k.n)).setCell ⟨b, 5, none⟩ (.int .i64 k.d)).setCell ⟨b, 6, none⟩ (.int .i64 k.c)).setCell ⟨b, 7, none⟩ (.int .i64 k.t)) := by
  have hk : ∀ {g : Nat} {o : Obj}, g < b → Has w2 g o → Has ((((((((w2.setCell ⟨b, 0, none⟩ (.int .i64 tp)).setCell ⟨b, 1, none⟩ (.slice s2 tn c2)).setCell ⟨b, 2, none⟩ (.int .i64 k.g)).setCell ⟨b, 3, none⟩ (.int .i64 k.o)).setCell ⟨b, 4, none⟩ (.int .i64 k.n)).setCell ⟨b, 5, none⟩ (.int .i64 k.d)).setCell ⟨b, 6, none⟩ (.int .i64 k.c)).setCell ⟨b, 7, none⟩ (.int .i64 k.t)) g o := fun hg h => by
    iterate 8 refine has_other ?_ _ _ (by show b ≠ _; omega)
    exact h
  exact ⟨s2, c2, HasT.set8 hT, JobsX.own (own_low8 ho hbl _ _ _ _ _ _ _ _) hn (fun x hx => by omega), below8 (bnext h0 hq) (by omega) _ _ _ _ _ _ _ _, hk (by omega) (l1.below hq), hk (by omega) (l2.below hq), hs⟩
set_option maxHeartbeats 4000000 in
set_option maxRecDepth 100000 in
theorem rpush14_none (X : Nat → Prop) (A : Tab) (T : Nat → Tk) (last : Int) (hg : PGood A T last) (x : Int) (j : Jb) (now : Int) (hf : A.find x = none) (gs ts ks : Value) (w : World) (h : DP X w A T gs ts ks) (_hX : ∀ x, X x → x < w.heap.size) :
    Calls Tryz.prog 40 #[pv gs ts ks last, .int .i64 x, jV j, .int .i64 now] w (PoolN X w A T last 20) := by
  have HF := Lib.hid (fun W (hb : Below w.heap.size w W) => rfind14 X A T last hg x gs ts ks W (h.below hb))
  rw [hf, show optV none = -1 from rfl] at HF
  have HD := Lib.hid h
  obtain ⟨p, cp, q, cq, r, cr, sl, rfl, rfl, rfl, _, _, _⟩ := h.shape hg
  obtain ⟨jl, jc, ja, jd⟩ := j
  obtain ⟨WA, hWA⟩ : ∃ WA, WA = ((w.alloc (.cells #[.slice p 16 cp, .slice q 16 cq, .slice r 16 cr, .int .i64 last] PT14)).alloc (.cells #[.int .i64 jl, .int .i64 jc, .int .i64 ja, .int .i64 jd] JT)).alloc (.cells #[.slice none 0 0, .slice none 0 0, .slice none 0 0, .int .i64 0] PT14) := ⟨_, rfl⟩
  have HB := Lib.hid (show Below w.heap.size w WA ∧ WA.heap.size = w.heap.size + 3 from by rw [hWA]; exact ⟨(((Below.refl _ _).alloc (Nat.le_refl _) _).alloc (by simp) _).alloc (by simp; omega) _, by simp⟩)
  have HT := Lib.hid (show HasP WA w.heap.size (.slice p 16 cp) (.slice q 16 cq) (.slice r 16 cr) last ∧ HasP WA (w.heap.size + 1 + 1) (.slice none 0 0) (.slice none 0 0) (.slice none 0 0) 0 ∧ HasJ WA (w.heap.size + 1) ⟨jl, jc, ja, jd⟩ from by rw [hWA]; exact ⟨has_old (has_old (hasP_new _ _ _ _ _) _) _, has_new _ _ _ (by simp), has_old (has_new _ _ _ (by simp)) _⟩)
  have HW := Lib.hid hWA
  clear hWA h hg hf _hX
  go_enter Tryz.func40, Tryz.ntmps40
  go_upto_region 1 with fail
  rw [← HW.out]
  obtain ⟨a0, a1, a2, a3⟩ := HT.out.1.cells
  go_wp2_with fail
  refine (HF.out WA HB.out.1).mono ?_
  rintro e w1 ⟨rfl, hb1⟩
  have HB1 := Lib.hid (bnext HB.out.1 hb1)
  have HT1 := Lib.hid (show _ ∧ _ from ⟨HT.out.1.below hb1, HT.out.2.1.below hb1⟩)
  clear hb1 a0 a1 a2 a3
  obtain ⟨a0, a1, a2, a3⟩ := HasP.cells HT1.out.1
  obtain ⟨y0, y1, y2, y3⟩ := HasP.cells HT1.out.2
  have fr := fun j => has_free HT1.out.2 j
  go_wp2_with fail
  refine bodyPost_ret (v := .tuple #[pv (.slice p 16 cp) (.slice q 16 cq) (.slice r 16 cr) last, .int .i64 20]) (by simp [results, Tryz.results40, go_sem, y0, y1, y2, y3]) rfl ?_
  have hbel := below4p HB1.out (g := w.heap.size + 1 + 1) (by omega) (.slice p 16 cp) (.slice q 16 cq) (.slice r 16 cr) (.int .i64 last)
  exact ⟨_, _, _, rfl, HD.out.below hbel, hbel⟩
set_option maxHeartbeats 8000000 in
set_option maxRecDepth 100000 in
theorem rpush14_some (X : Nat → Prop) (A : Tab) (T : Nat → Tk) (last : Int) (hg : PGood A T last) (x : Int) (j : Jb) (now : Int) (i : Nat) (hf : A.find x = some i) (gs ts ks : Value) (w : World) (h : DP X w A T gs ts ks) (hX : ∀ x, X x → x < w.heap.size) :
    Calls Tryz.prog 40 #[pv gs ts ks last, .int .i64 x, jV j, .int .i64 now] w (PoolN X w A (if pushE (T i).p (T i).n (T i).f (T i).k j now = 0 then upd T i (tkPush (T i) sN j now) else T) last (pushE (T i).p (T i).n (T i).f (T i).k j now)) := by
  have HF := Lib.hid (fun W (hb : Below w.heap.size w W) => rfind14 X A T last hg x gs ts ks W (h.below hb))
  rw [hf, show optV (some i) = (i : Int) from rfl] at HF
  have HTW := Lib.hid (fun W (hb : Below w.heap.size w W) => rtwin14 X A T last hg gs ts ks W (h.below hb))
  have HD := Lib.hid h
  have HX := Lib.hid hX
  have hlen := hg.len
  have hlt := hg.tab.lt
  obtain ⟨hi, hti0, _⟩ := find_inv hf
  have hi16 : i < 16 := by omega
  have HLN := Lib.hid (⟨hlen, hlt⟩ : _ ∧ _)
  obtain ⟨p, cp, q, cq, r, cr, sl, rfl, rfl, rfl, _, _, hT⟩ := h.shape hg
  have hok := hg.ok i
  obtain ⟨_, _, e, _, hc⟩ := hT.tk
  simp only [Value.slice.injEq] at e
  obtain ⟨bk, ok, e2, d0, d1, d2, d3, d4, d5, d6, d7, hJ0⟩ := hc i hi16
  have e3 : r = some ⟨bk, ok, none⟩ := by rw [e.1]; exact e2
  subst e3
  have hbk : bk < w.heap.size := cell_lt d0
  have HJ := Lib.hid hJ0
  obtain ⟨q0, cq0, hq0, _⟩ := hJ0
  dsimp only [tm] at d0 d1 d2 d3 d4 d5 d6 d7 hq0 HJ
  rw [hq0] at d1 HJ
  obtain ⟨t, hti⟩ : ∃ t, t = T i := ⟨_, rfl⟩
  rw [← hti] at d0 d1 d2 d3 d4 d5 d6 d7 HJ hok ⊢
  obtain ⟨tp, ts', tn, tf, ⟨kg, ko, kn, kd, kc, kt⟩⟩ := t
  obtain ⟨jl, jc, ja, jd⟩ := j
  dsimp only at d0 d1 d2 d3 d4 d5 d6 d7 HJ ⊢
  have hn8 : tn ≤ 8 := hok.2.1
  have HPS := Lib.hid (fun W (hb : Below w.heap.size w W) => rpush_any tp (.slice q0 tn cq0) tn tf ⟨kg, ko, kn, kd, kc, kt⟩ ⟨jl, jc, ja, jd⟩ now W (HJ.out.below hb))
  unfold TaskO at HPS
  unfold tkPush
  dsimp only
  obtain ⟨E, hEE⟩ : ∃ E, E = pushE tp tn tf ⟨kg, ko, kn, kd, kc, kt⟩ ⟨jl, jc, ja, jd⟩ now := ⟨_, rfl⟩
  rw [← hEE] at HPS ⊢
  obtain ⟨tp', htp'⟩ : ∃ tp', tp' = if E = 0 then tp else 0 := ⟨_, rfl⟩
  obtain ⟨tn', htn'⟩ : ∃ tn', tn' = if E = 0 then tn + 1 else 0 := ⟨_, rfl⟩
  obtain ⟨kk', hkk'⟩ : ∃ kk', kk' = if E = 0 then (⟨kg, ko, kn, kd, kc, kt⟩ : Ac) else kZ := ⟨_, rfl⟩
  rw [← htp', ← htn', ← hkk'] at HPS
  have HEQ := Lib.hid (show E = 0 → tp' = tp ∧ tn' = tn + 1 ∧ kk' = ⟨kg, ko, kn, kd, kc, kt⟩ from fun h0 => ⟨by rw [htp', if_pos h0], by rw [htn', if_pos h0], by rw [hkk', if_pos h0]⟩)
  have HN9 := Lib.hid (show tn' ≤ 9 from by rw [htn']; split <;> omega)
  clear htp' htn' hkk' hEE
  obtain ⟨rg, ro, rnn, rd, rc, rt⟩ := kk'
  obtain ⟨rf, hrf⟩ : ∃ rf, rf = upd tf tn ⟨jl, jc, now, jd⟩ := ⟨_, rfl⟩
  rw [← hrf] at HPS ⊢
  clear hrf
  have HXC := Lib.hid (fun W (hb : Below w.heap.size w W) => show _ ∧ _ ∧ _ ∧ _ ∧ _ ∧ _ ∧ _ ∧ _ from ⟨(hb.cell (p := ⟨bk, ok + i * 8, none⟩) hbk).trans d0, (hb.cell (p := ⟨bk, ok + i * 8 + 1, none⟩) hbk).trans d1, (hb.cell (p := ⟨bk, ok + i * 8 + 2, none⟩) hbk).trans d2, (hb.cell (p := ⟨bk, ok + i * 8 + 3, none⟩) hbk).trans d3, (hb.cell (p := ⟨bk, ok + i * 8 + 4, none⟩) hbk).trans d4, (hb.cell (p := ⟨bk, ok + i * 8 + 5, none⟩) hbk).trans d5, (hb.cell (p := ⟨bk, ok + i * 8 + 6, none⟩) hbk).trans d6, (hb.cell (p := ⟨bk, ok + i * 8 + 7, none⟩) hbk).trans d7⟩)
  obtain ⟨WA, hWA⟩ : ∃ WA, WA = ((w.alloc (.cells #[.slice p 16 cp, .slice q 16 cq, .slice (some ⟨bk, ok, none⟩) 16 cr, .int .i64 last] PT14)).alloc (.cells #[.int .i64 jl, .int .i64 jc, .int .i64 ja, .int .i64 jd] JT)).alloc (.cells #[.slice none 0 0, .slice none 0 0, .slice none 0 0, .int .i64 0] PT14) := ⟨_, rfl⟩
  have HB := Lib.hid (show Below w.heap.size w WA ∧ WA.heap.size = w.heap.size + 3 from by rw [hWA]; exact ⟨(((Below.refl _ _).alloc (Nat.le_refl _) _).alloc (by simp) _).alloc (by simp; omega) _, by simp⟩)
  have HT := Lib.hid (show HasP WA w.heap.size (.slice p 16 cp) (.slice q 16 cq) (.slice (some ⟨bk, ok, none⟩) 16 cr) last ∧ HasP WA (w.heap.size + 1 + 1) (.slice none 0 0) (.slice none 0 0) (.slice none 0 0) 0 ∧ HasJ WA (w.heap.size + 1) ⟨jl, jc, ja, jd⟩ from by rw [hWA]; exact ⟨has_old (has_old (hasP_new _ _ _ _ _) _) _, has_new _ _ _ (by simp), has_old (has_new _ _ _ (by simp)) _⟩)
  have HW := Lib.hid hWA
  have e0 : (0 : Int) ≤ (i : Int) := by omega
  have e1 : (i : Int) < 16 := by omega
  have ed : decide ((i : Int) < 0) = false := decide_eq_false (by omega)
  clear hWA h hg hX hT hc e e2 hti d0 d1 d2 d3 d4 d5 d6 d7 hi hti0 hf hq0 hok hbk hn8 hlen hlt
  go_enter Tryz.func40, Tryz.ntmps40
  go_upto_region 1 with fail
  rw [← HW.out]
  obtain ⟨a0, a1, a2, a3⟩ := HT.out.1.cells
  go_wp2_with fail
  refine (HF.out WA HB.out.1).mono ?_
  rintro e w1 ⟨rfl, hb1⟩
  have HB1 := Lib.hid (bnext HB.out.1 hb1)
  have HT1 := Lib.hid (show _ ∧ _ ∧ _ from ⟨HT.out.1.below hb1, HT.out.2.1.below hb1, HT.out.2.2.below hb1⟩)
  have HS1 := Lib.hid (show w.heap.size + 3 ≤ w1.heap.size from by have := HB.out.2; have := hb1.size; omega)
  clear hb1 a0 a1 a2 a3
  obtain ⟨a0, a1, a2, a3⟩ := HasP.cells HT1.out.1
  obtain ⟨j0, j1, j2, j3⟩ := HasJ.cells HT1.out.2.2
  obtain ⟨d0, d1, d2, d3, d4, d5, d6, d7⟩ := HXC.out w1 HB1.out
  have hlL : w.heap.size < w1.heap.size := by have := HS1.out; omega
  have hlJ : w.heap.size + 1 < w1.heap.size := by have := HS1.out; omega
  have hlK : bk < w1.heap.size := cell_lt d0
  go_upto_region 4 with fail
  go_cut [11, 12] (fun tv ev wx => ∃ b, tv = .pointer (some ⟨b, 0, none⟩) ∧ ev = .int .i64 E ∧ Hid (PB14 w (.slice p 16 cp) (.slice q 16 cq) (.slice (some ⟨bk, ok, none⟩) 16 cr) last tp' tn' rf ⟨rg, ro, rnn, rd, rc, rt⟩ b wx))
  case first =>
    go_region_law (first
      | (go_simp; go_at_call 71; refine (HPS.out w1.drew HB1.out.drew).mono ?_; rintro e w2 ⟨xx, rfl, s2, c2', rfl, ho, hb2⟩; have HO := Lib.hid ho; have HQ := Lib.hid hb2; clear ho hb2)
      | (go_simp; go_at_call 71; refine (HPS.out _ (HB1.out.alloc HB1.out.size (.cells #[.int .i64 0, .slice none 0 0, .int .i64 0, .int .i64 0, .int .i64 0, .int .i64 0, .int .i64 0, .int .i64 0] KT)).drew).mono ?_; rintro e w2 ⟨xx, rfl, s2, c2', rfl, ho, hb2⟩; have HTX := Lib.hid (HasT.below (has_drew (hasT_new w1 0 (.slice none 0 0) kZ)) hb2); obtain ⟨x0, x1, x2, x3, x4, x5, x6, x7⟩ := HTX.out.cells; have fx := fun j => has_free HTX.out j; have HO := Lib.hid ho; have HQ := Lib.hid hb2; clear ho hb2))
    all_goals
      go_wp2_with fail
      go_meet
      refine ⟨_, rfl, rfl, Lib.hid ?_⟩
      have hB1 := HB1.out
      have hs1 := HS1.out
      have hn9 : tn' ≤ 9223372036854775807 := by have := HN9.out; omega
      have hs0 : w.heap.size + 3 ≤ w1.drew.heap.size := hs1
      have hbl0 : w1.heap.size < (w1.alloc (.cells #[.int .i64 0, .slice none 0 0, .int .i64 0, .int .i64 0, .int .i64 0, .int .i64 0, .int .i64 0, .int .i64 0] KT)).drew.heap.size := by simp [World.drew]
      first
        | (with_reducible refine PB14.a (k := ⟨rg, ro, rnn, rd, rc, rt⟩) (W0 := w1.drew) ?_ hs0 ?_ ?_ HQ.out HO.out hn9)
          · exact hB1.drew
          · exact HT1.out.1
          · exact HT1.out.2.1
        | (with_reducible refine PB14.b (k := ⟨rg, ro, rnn, rd, rc, rt⟩) (W0 := (w1.alloc (.cells #[.int .i64 0, .slice none 0 0, .int .i64 0, .int .i64 0, .int .i64 0, .int .i64 0, .int .i64 0, .int .i64 0] KT)).drew) ?_ hs1 hbl0 ?_ ?_ HQ.out HTX.out HO.out hn9)
          · exact (hB1.alloc hB1.size _).drew
          · exact has_drew (has_old HT1.out.1 _)
          · exact has_drew (has_old HT1.out.2.1 _)
  case rest =>
    obtain ⟨b, rfl, rfl, HPB⟩ := hcut
    obtain ⟨s2, cz2, hT, hJ, hB, hL1, hL2, hb⟩ := HPB.out
    have HTT := Lib.hid hT
    have HJJ := Lib.hid hJ
    have HBB := Lib.hid hB
    have HL1 := Lib.hid hL1
    have HL2 := Lib.hid hL2
    have HBL := Lib.hid (show w.heap.size + 3 ≤ b ∧ b < wc.heap.size from ⟨hb, has_lt hT⟩)
    clear hT hJ hB hL1 hL2 hb a0 a1 a2 a3 j0 j1 j2 j3 d0 d1 d2 d3 d4 d5 d6 d7 hlL hlJ hlK
    obtain ⟨a0, a1, a2, a3⟩ := HasP.cells HL1.out
    obtain ⟨z0, z1, z2, z3⟩ := HasP.cells HL2.out
    have fz := fun j => has_free HL2.out j
    by_cases hE : E = 0
    · obtain ⟨e1', e2', e3'⟩ := HEQ.out hE
      cases e3'
      subst e1' e2' hE
      obtain ⟨t0, t1, t2, t3, t4, t5, t6, t7⟩ := HTT.out.cells
      have HTW1 := Lib.hid (HTW.out wc HBB.out)
      go_wp2_with fail
      refine HTW1.out.mono ?_
      rintro e w2 ⟨gs2, ts2, ks2, sl2, rfl, ho2, hb2⟩
      obtain ⟨g1, c1, g2, c2, g3, c3, rfl, rfl, rfl, y1', y2', y3', n1, n2, n3⟩ := ho2.blocks
      have hw2 := hb2.size
      have HJ2 := Lib.hid (show JobsX (fun x => x < w.heap.size + 3 ∨ x = g1 ∨ x = g2 ∨ x = g3) w2 _ _ _ from (HJJ.out.mono (fun x hx q => by rcases q with q | q | q | q; exact q; omega; omega; omega)).below hb2)
      have HO2 := Lib.hid (ho2.lower (B' := w.heap.size + 3) (by have := HBL.out; omega))
      have HB2 := Lib.hid hb2
      clear ho2 hb2 a0 a1 a2 a3 z0 z1 z2 z3 fz t0 t1 t2 t3 t4 t5 t6 t7
      go_upto_region 8 with fail
      obtain ⟨W3, hW3⟩ : ∃ W3, W3 = w2.alloc (.cells #[.slice (some ⟨g1, 0, none⟩) 16 c1, .slice (some ⟨g2, 0, none⟩) 16 c2, .slice (some ⟨g3, 0, none⟩) 16 c3, .int .i64 last] PT14) := ⟨_, rfl⟩
      rw [← hW3]
      have HW3 := Lib.hid (show Below w2.heap.size w2 W3 ∧ HasP W3 w2.heap.size (.slice (some ⟨g1, 0, none⟩) 16 c1) (.slice (some ⟨g2, 0, none⟩) 16 c2) (.slice (some ⟨g3, 0, none⟩) 16 c3) last from by rw [hW3]; exact ⟨(Below.refl _ _).alloc (Nat.le_refl _) _, hasP_new _ _ _ _ _⟩)
      have HO3 := Lib.hid (HO2.out.under HW3.out.1)
      clear hW3
      have k1 := (World.ownsRow.cellAt HO3.out.g i (by omega)).trans (ints_at (by have := HLN.out; omega))
      have k2 := (World.ownsRow.cellAt HO3.out.t i (by omega)).trans (bools_at (by have := HLN.out; omega))
      have q := fun (r : Nat) (hr : r < 8) => (World.ownsRow.cellAt HO3.out.k (i * 8 + r) (by omega)).trans (tkL_at (tm T sl2) hi16 r hr)
      have u0 := q 0 (by omega)
      have u1 := q 1 (by omega)
      have u2 := q 2 (by omega)
      have u3 := q 3 (by omega)
      have u4 := q 4 (by omega)
      have u5 := q 5 (by omega)
      have u6 := q 6 (by omega)
      have u7 := q 7 (by omega)
      rw [Nat.add_zero] at u0
      generalize prtT (tm T sl2 i) 0 = v0 at *
      generalize prtT (tm T sl2 i) 1 = v1 at *
      generalize prtT (tm T sl2 i) 2 = v2 at *
      generalize prtT (tm T sl2 i) 3 = v3 at *
      generalize prtT (tm T sl2 i) 4 = v4 at *
      generalize prtT (tm T sl2 i) 5 = v5 at *
      generalize prtT (tm T sl2 i) 6 = v6 at *
      generalize prtT (tm T sl2 i) 7 = v7 at *
      have f1 := fun j => World.ownsRow.frozenAt HO3.out.g j
      have f2 := fun j => World.ownsRow.frozenAt HO3.out.t j
      have f3 := fun j => World.ownsRow.frozenAt HO3.out.k j
      obtain ⟨x0, x1, x2, x3⟩ := HW3.out.2.cells
      have fq := fun j => has_free HW3.out.2 j
      clear q
      have HTT3 := Lib.hid (HasT.below HTT.out (bnext HB2.out HW3.out.1))
      have HZ3 := Lib.hid (HasP.below (HasP.below HL2.out HB2.out) HW3.out.1)
      have HB3 := Lib.hid (bnext HBB.out (bnext HB2.out HW3.out.1))
      have HJ3 := Lib.hid (HJ2.out.below HW3.out.1)
      obtain ⟨t0, t1, t2, t3, t4, t5, t6, t7⟩ := HTT3.out.cells
      obtain ⟨z0, z1, z2, z3⟩ := HZ3.out.cells
      have fz := fun j => has_free HZ3.out j
      have hbl := HBL.out
      have m1 : ¬ g1 = w2.heap.size := by omega
      have m2 : ¬ g2 = w2.heap.size := by omega
      have m3 : ¬ g3 = w2.heap.size := by omega
      have m4 : ¬ g1 = w.heap.size + 1 + 1 := by omega
      have m5 : ¬ g2 = w.heap.size + 1 + 1 := by omega
      have m6 : ¬ g3 = w.heap.size + 1 + 1 := by omega
      have m7 : ¬ g2 = b := by omega
      have m8 : ¬ g3 = b := by omega
      have m9 : ¬ w2.heap.size = w.heap.size + 1 + 1 := by omega
      have m10 : ¬ w.heap.size + 1 + 1 = w2.heap.size := by omega
      have n1' : ¬ g2 = g1 := fun e => n1 e.symm
      have n2' : ¬ g3 = g1 := fun e => n2 e.symm
      have n3' : ¬ g3 = g2 := fun e => n3 e.symm
      have HLOW := Lib.hid (show w.heap.size ≤ g3 from by omega)
      clear hbl hw2
      go_upto_region 9 with fail
      obtain ⟨W4, hW4⟩ : ∃ W4, W4 = (((((((W3.setCell ⟨g3, i * 8, none⟩ (.int .i64 tp')).setCell ⟨g3, i * 8 + 1, none⟩ (.slice s2 (tn + 1) cz2)).setCell ⟨g3, i * 8 + 2, none⟩ (.int .i64 kg)).setCell ⟨g3, i * 8 + 3, none⟩ (.int .i64 ko)).setCell ⟨g3, i * 8 + 4, none⟩ (.int .i64 kn)).setCell ⟨g3, i * 8 + 5, none⟩ (.int .i64 kd)).setCell ⟨g3, i * 8 + 6, none⟩ (.int .i64 kc)).setCell ⟨g3, i * 8 + 7, none⟩ (.int .i64 kt) := ⟨_, rfl⟩
      rw [← hW4]
      have HK4 := Lib.hid (show Keeps (fun x => x = g3) W3 W4 from by rw [hW4]; exact far_set8 (Keeps.refl _ _) g3 i ⟨tp', .slice s2 (tn + 1) cz2, 0, fun _ => ⟨0, 0, 0, 0⟩, ⟨kg, ko, kn, kd, kc, kt⟩⟩ rfl)
      have HO4 := Lib.hid (show P14 (w.heap.size + 3) W4 A.gens A.taken (upd T i ⟨tp', sN, tn + 1, rf, ⟨kg, ko, kn, kd, kc, kt⟩⟩) g1 c1 g2 c2 g3 c3 (upd sl2 i (.slice s2 (tn + 1) cz2)) from by rw [hW4]; exact HO3.out.setK i tp' (.slice s2 (tn + 1) cz2) (tn + 1) rf ⟨kg, ko, kn, kd, kc, kt⟩ sN HJ3.out)
      have HB4 := Lib.hid (show Below w.heap.size w W4 from below_keeps HB3.out HK4.out (fun x q => q ▸ HLOW.out))
      have HQ4 := Lib.hid (show HasP W4 w2.heap.size (.slice (some ⟨g1, 0, none⟩) 16 c1) (.slice (some ⟨g2, 0, none⟩) 16 c2) (.slice (some ⟨g3, 0, none⟩) 16 c3) last from has_keeps HW3.out.2 HK4.out (fun e => m3 e.symm))
      have HZ4 := Lib.hid (show HasP W4 (w.heap.size + 1 + 1) _ _ _ _ from has_keeps HZ3.out HK4.out (fun e => m6 e.symm))
      clear hW4 k1 k2 u0 u1 u2 u3 u4 u5 u6 u7 f1 f2 f3 x0 x1 x2 x3 fq t0 t1 t2 t3 t4 t5 t6 t7 z0 z1 z2 z3 fz
      obtain ⟨x0, x1, x2, x3⟩ := HasP.cells HQ4.out
      obtain ⟨z0, z1, z2, z3⟩ := HasP.cells HZ4.out
      have fz := fun j => has_free HZ4.out j
      go_wp2_with fail
      refine bodyPost_ret (v := .tuple #[pv (.slice (some ⟨g1, 0, none⟩) 16 c1) (.slice (some ⟨g2, 0, none⟩) 16 c2) (.slice (some ⟨g3, 0, none⟩) 16 c3) last, .int .i64 0]) (by simp [results, Tryz.results40, go_sem, z0, z1, z2, z3]) rfl ?_
      have o5 := HO4.out.away (keeps4p (R := fun x => x = w.heap.size + 1 + 1) (Keeps.refl _ _) rfl (.slice (some ⟨g1, 0, none⟩) 16 c1) (.slice (some ⟨g2, 0, none⟩) 16 c2) (.slice (some ⟨g3, 0, none⟩) 16 c3) (.int .i64 last)) (fun x e => by omega)
      exact ⟨_, _, _, rfl, Own14.dp o5 HLN.out.1 (by have := HLN.out; omega) (fun x hx => by have := HX.out x hx; omega), below4p HB4.out (by omega) _ _ _ _⟩
    · have g1 : (E != 0) = true := by simpa using hE
      have HEN := Lib.hid hE
      go_wp2_with fail
      refine bodyPost_ret (v := .tuple #[pv (.slice p 16 cp) (.slice q 16 cq) (.slice (some ⟨bk, ok, none⟩) 16 cr) last, .int .i64 E]) (by simp [results, Tryz.results40, go_sem, z0, z1, z2, z3]) rfl ?_
      have hbel := below4p HBB.out (g := w.heap.size + 1 + 1) (by omega) (.slice p 16 cp) (.slice q 16 cq) (.slice (some ⟨bk, ok, none⟩) 16 cr) (.int .i64 last)
      exact ⟨_, _, _, rfl, HD.out.below hbel, hbel⟩
theorem rpush14 (X : Nat → Prop) (A : Tab) (T : Nat → Tk) (last : Int) (hg : PGood A T last) (gs ts ks : Value) (w : World) (h : DP X w A T gs ts ks) (hX : ∀ x, X x → x < w.heap.size) (x : Int) (j : Jb) (now : Int) :
    Calls Tryz.prog 40 #[pv gs ts ks last, .int .i64 x, jV j, .int .i64 now] w (PoolN X w A (pushT A T x j now) last (pushN A T x j now)) := by
  cases hf : A.find x with
  | none =>
    rw [show pushN A T x j now = 20 by simp [pushN, hf], show pushT A T x j now = T by simp [pushT, hf]]
    exact rpush14_none X A T last hg x j now hf gs ts ks w h hX
  | some i =>
    rw [show pushN A T x j now = pushE (T i).p (T i).n (T i).f (T i).k j now by simp [pushN, hf], show pushT A T x j now = if pushE (T i).p (T i).n (T i).f (T i).k j now = 0 then upd T i (tkPush (T i) sN j now) else T by simp [pushT, hf]]
    exact rpush14_some X A T last hg x j now i hf gs ts ks w h hX
end Go.Proofs.YtedgchafligndaaGreat
/- The document's own pool: next, Next; no condition but those that each row names. -/
namespace Go.Proofs.YtedgchafligndaaGreat
open Go.RowKit Tsk

namespace Tsk
/-- The slot that comes so many behind the last one. -/
def atN (last : Int) (k : Nat) : Nat := ((last + k) % 16).toNat
/-- The first of the most urgent ones among so many slots behind the last one's. -/
def nxS (t : Nat → Bool) (T : Nat → Tk) (last : Int) : Nat → Int
  | 0 => -1
  | k + 1 => if t (atN last (k + 1)) = true ∧ 0 < (T (atN last (k + 1))).n ∧ (nxS t T last k < 0 ∨ (T (atN last (k + 1))).p < (T (nxS t T last k).toNat).p) then (atN last (k + 1) : Int) else nxS t T last k
/-- The slot that has the next tick. -/
def nx (A : Tab) (T : Nat → Tk) (last : Int) : Int := nxS A.t T last 16
end Tsk
theorem atN_lt (last : Int) (k : Nat) : atN last k < 16 := by
  unfold atN
  have h1 := Int.emod_nonneg (last + k) (show (16 : Int) ≠ 0 by decide)
  have h2 := Int.emod_lt_of_pos (last + k) (show (0 : Int) < 16 by decide)
  omega
theorem atN_mod {last : Int} (h : -1 ≤ last) (h2 : last < 16) {k : Nat} (hk : 1 ≤ k) (hk2 : k ≤ 16) : (last + (k : Int)).tmod 16 = (atN last k : Int) := by
  rw [Int.tmod_eq_emod_of_nonneg (by omega)]
  unfold atN
  have h1 := Int.emod_nonneg (last + k) (show (16 : Int) ≠ 0 by decide)
  omega
theorem nxS_in {t : Nat → Bool} {T : Nat → Tk} {last : Int} : ∀ k, nxS t T last k = -1 ∨ ∃ i : Nat, nxS t T last k = i ∧ i < 16 ∧ t i = true ∧ 0 < (T i).n
  | 0 => .inl rfl
  | k + 1 => by
    unfold nxS
    by_cases c : t (atN last (k + 1)) = true ∧ 0 < (T (atN last (k + 1))).n ∧ (nxS t T last k < 0 ∨ (T (atN last (k + 1))).p < (T (nxS t T last k).toNat).p)
    · rw [if_pos c]
      exact .inr ⟨_, rfl, atN_lt _ _, c.1, c.2.1⟩
    · rw [if_neg c]
      exact nxS_in k
set_option maxHeartbeats 8000000 in
set_option maxRecDepth 100000 in
theorem rnext14 (X : Nat → Prop) (A : Tab) (T : Nat → Tk) (last : Int) (hg : PGood A T last) (gs ts ks : Value) (w : World) (h : DP X w A T gs ts ks) :
    Calls Tryz.prog 67 #[pv gs ts ks last] w fun e w' => e = .returned (.int .i64 (nx A T last)) ∧ Below w.heap.size w w' := by
  have HLO := Lib.hid (⟨hg.lo, hg.hi⟩ : _ ∧ _)
  obtain ⟨p, cp, q, cq, r, cr, sl, rfl, rfl, rfl, hc, hct, hT⟩ := h.shape hg
  have HC := Lib.hid hct
  have HTX := Lib.hid hT.tk
  have HJX := Lib.hid hT.jx
  obtain ⟨WA, hWA⟩ : ∃ WA, WA = w.alloc (.cells #[.slice p 16 cp, .slice q 16 cq, .slice r 16 cr, .int .i64 last] PT14) := ⟨_, rfl⟩
  have HB := Lib.hid (show Below w.heap.size w WA from by rw [hWA]; exact (Below.refl _ _).alloc (Nat.le_refl _) _)
  have HT := Lib.hid (show HasP WA w.heap.size (.slice p 16 cp) (.slice q 16 cq) (.slice r 16 cr) last from by rw [hWA]; exact hasP_new _ _ _ _ _)
  have HW := Lib.hid hWA
  clear hWA h hg hc hct hT
  go_enter Tryz.func67, Tryz.ntmps67
  go_upto_region 1 with fail
  rw [← HW.out]
  obtain ⟨a0, a1, a2, a3⟩ := HT.out.cells
  go_wp2_with fail
  go_loopw [3, 4] (fun bv kv wr => ∃ k : Nat, k ≤ 16 ∧ kv = .int .i64 ((k : Int) + 1) ∧ bv = .int .i64 (nxS A.t T last k) ∧ Hid (Below WA.heap.size WA wr)) (fun _ kv _ => 17 - (intOf kv).toNat)
  case atStart => exact ⟨0, Nat.zero_le _, rfl, rfl, Lib.hid (Below.refl _ _)⟩
  case round =>
    clear a0 a1 a2 a3
    obtain ⟨k, hk, rfl, rfl, HBX⟩ := hrel
    obtain ⟨a0, a1, a2, a3⟩ := HasP.cells (HT.out.below HBX.out)
    have z0 : (0 : Int) ≤ (k : Int) := by omega
    by_cases hlt : k < 16
    · have z1 : (k : Int) + 1 ≤ 16 := by omega
      obtain ⟨hlo, hhi⟩ := HLO.out
      have HMO := Lib.hid (show (last + ((k : Int) + 1)) % 16 = (atN last (k + 1) : Int) from by
        unfold atN
        have h1 := Int.emod_nonneg (last + ((k : Int) + 1)) (show (16 : Int) ≠ 0 by decide)
        rw [show ((k + 1 : Nat) : Int) = (k : Int) + 1 by omega]
        omega)
      have hw1 : wrap64 (last + ((k : Int) + 1)) = last + ((k : Int) + 1) := by unfold wrap64; omega
      have hi16 := atN_lt last (k + 1)
      have HREL := Lib.hid (show nxS A.t T last (k + 1) = if A.t (atN last (k + 1)) = true ∧ 0 < (T (atN last (k + 1))).n ∧ (nxS A.t T last k < 0 ∨ (T (atN last (k + 1))).p < (T (nxS A.t T last k).toNat).p) then (atN last (k + 1) : Int) else nxS A.t T last k from rfl)
      have HIN := Lib.hid (nxS_in (t := A.t) (T := T) (last := last) k)
      generalize atN last (k + 1) = i at *
      generalize nxS A.t T last k = bs at *
      go_upto_region 6 with fail
      rw [HMO.out]
      obtain ⟨bt, ot, rfl, hct0⟩ := HC.out WA HB.out i hi16
      obtain ⟨_, _, e, _, hcT⟩ := HTX.out
      simp only [Value.slice.injEq] at e
      obtain ⟨bk, ok, e2, d0, d1, d2, d3, d4, d5, d6, d7, hJ⟩ := hcT i hi16
      have e3 : r = some ⟨bk, ok, none⟩ := by rw [e.1]; exact e2
      have HBS := Lib.hid (show ∀ g : Nat, g < 16 → w.cell? ⟨bk, ok + g * 8, none⟩ = some (.int .i64 (T g).p) from fun g hg => by
        obtain ⟨bk', ok', e2', d0', _⟩ := hcT g hg
        rw [e2] at e2'
        cases e2'
        exact d0')
      subst e3
      obtain ⟨s1, cs1, hs1, _⟩ := hJ
      have hbk : bk < w.heap.size := cell_lt d0
      dsimp only [tm] at d0 d1 d2 d3 d4 d5 d6 d7 hs1
      rw [hs1] at d1
      have HR := Lib.hid (rready (T i).p s1 (T i).n cs1 (T i).k)
      obtain ⟨t, hti⟩ : ∃ t, t = T i := ⟨_, rfl⟩
      rw [← hti] at d0 d1 d2 d3 d4 d5 d6 d7 HR HREL
      clear hti hcT e e2 hs1
      obtain ⟨tp, ts, tn, tf, ⟨kg, ko, kn, kd, kc, kt⟩⟩ := t
      dsimp only at d0 d1 d2 d3 d4 d5 d6 d7 HR HREL
      have HD := Lib.hid (⟨d0, d1, d2, d3, d4, d5, d6, d7⟩ : _ ∧ _ ∧ _ ∧ _ ∧ _ ∧ _ ∧ _ ∧ _)
      have hbt : bt < WA.heap.size := cell_lt hct0
      have HCT0 := Lib.hid hct0
      obtain ⟨C, hCd⟩ : ∃ C : World → Prop, C = fun W' => Below WA.heap.size WA W' := ⟨_, rfl⟩
      refine region_class C (by kernel_rfl) (by kernel_rfl) (by rw [hCd]; exact below_drew HBX.out) ?_
      have HCn := Lib.hid (show ∀ W W', C W → Below W.heap.size W W' → C W' from fun W W' hW hb => by rw [hCd] at hW ⊢; exact bnext hW hb)
      have HC2 := Lib.hid (show ∀ W, C W → Below WA.heap.size WA W from fun W hW => by rw [hCd] at hW; exact hW)
      have HCC := Lib.hid (fun W (hW : C W) => show _ ∧ _ ∧ _ from ⟨HasP.cells (HT.out.below (HC2.out W hW)), ((HC2.out W hW).cell (p := ⟨bt, ot + i, none⟩) hbt).trans HCT0.out, (show _ ∧ _ ∧ _ ∧ _ ∧ _ ∧ _ ∧ _ ∧ _ from by
        have kk := fun (o : Nat) => (bnext HB.out (HC2.out W hW)).cell (p := ⟨bk, o, none⟩) hbk
        obtain ⟨d0, d1, d2, d3, d4, d5, d6, d7⟩ := HD.out
        exact ⟨(kk _).trans d0, (kk _).trans d1, (kk _).trans d2, (kk _).trans d3, (kk _).trans d4, (kk _).trans d5, (kk _).trans d6, (kk _).trans d7⟩)⟩)
      have HBS2 := Lib.hid (fun (g : Nat) (hg : g < 16) W (hW : C W) => ((bnext HB.out (HC2.out W hW)).cell (p := ⟨bk, ok + g * 8, none⟩) hbk).trans (HBS.out g hg))
      have hlw : (0 : Int) ≤ (i : Int) := by omega
      have hlw2 : (i : Int) < 16 := by omega
      clear hCd d0 d1 d2 d3 d4 d5 d6 d7 hct0 a0 a1 a2 a3 hw1 HBS HD
      cases hti : A.t i with
      | false =>
        have HS := Lib.hid (HREL.out.trans (if_neg (fun c => by rw [hti] at c; cases c.1)))
        rw [hti] at HCC
        have HC := Lib.hid (fun W hW => show _ ∧ _ ∧ _ ∧ True from ⟨(HCC.out W hW).1, (HCC.out W hW).2.1, (HCC.out W hW).2.2, trivial⟩)
        clear hti HREL
        iterate 32
          with_reducible refine wpQuiet_step ?_
          intro K hK
          go_simp
          first
            | refine hK _ ?_
            | refine ⟨_, fun _ _ => rfl, hK _ ?_⟩
            | (apply Exists.intro
               refine ⟨fun W hW => ?_, hK _ ?_⟩
               focus
                 go_at_call 87
                 refine (HR.out W).mono ?_
                 rintro e w3 ⟨rfl, hb⟩
                 exact ⟨rfl, HCn.out _ _ hW hb⟩)
            | (apply Exists.intro
               refine ⟨fun W hW => ?_, hK _ ?_⟩
               focus
                 obtain ⟨⟨a0, a1, a2, a3⟩, ht, ⟨d0, d1, d2, d3, d4, d5, d6, d7⟩, hbs⟩ := HC.out W hW
                 try have hbs0 := hbs
                 clear hW
                 go_simp
                 rfl)
          clear hK K
        with_reducible refine wpQuiet_nil ?_
        intro W hW
        have HB3 := Lib.hid (HC2.out W hW)
        go_wp2_with fail
        go_roundw
        case rel => exact ⟨k + 1, by omega, by go_num, by rw [HS.out], HB3⟩
        case measure => simp [intOf]; omega
      | true =>
        rw [hti] at HCC
        have HC := Lib.hid (fun W hW => show _ ∧ _ ∧ _ ∧ True from ⟨(HCC.out W hW).1, (HCC.out W hW).2.1, (HCC.out W hW).2.2, trivial⟩)
        by_cases h0 : 0 < tn
        · rw [decide_eq_true h0] at HR
          by_cases h1 : bs < 0
          · have HS := Lib.hid (HREL.out.trans (if_pos ⟨hti, h0, .inl h1⟩))
            have hbm : bs = -1 := by rcases HIN.out with q | ⟨g, q, _⟩ <;> omega
            subst hbm
            clear hti HREL h1
            iterate 32
              with_reducible refine wpQuiet_step ?_
              intro K hK
              go_simp
              first
                | refine hK _ ?_
                | refine ⟨_, fun _ _ => rfl, hK _ ?_⟩
                | (apply Exists.intro
                   refine ⟨fun W hW => ?_, hK _ ?_⟩
                   focus
                     go_at_call 87
                     refine (HR.out W).mono ?_
                     rintro e w3 ⟨rfl, hb⟩
                     exact ⟨rfl, HCn.out _ _ hW hb⟩)
                | (apply Exists.intro
                   refine ⟨fun W hW => ?_, hK _ ?_⟩
                   focus
                     obtain ⟨⟨a0, a1, a2, a3⟩, ht, ⟨d0, d1, d2, d3, d4, d5, d6, d7⟩, hbs⟩ := HC.out W hW
                     try have hbs0 := hbs
                     clear hW
                     go_simp
                     rfl)
              clear hK K
            with_reducible refine wpQuiet_nil ?_
            intro W hW
            have HB3 := Lib.hid (HC2.out W hW)
            go_wp2_with fail
            go_roundw
            case rel => exact ⟨k + 1, by omega, by go_num, by rw [HS.out], HB3⟩
            case measure => simp [intOf]; omega
          · obtain ⟨g, rfl, hg16, _, _⟩ : ∃ g : Nat, bs = g ∧ g < 16 ∧ A.t g = true ∧ 0 < (T g).n := by
              rcases HIN.out with q | q
              · omega
              · exact q
            have hg0 : (0 : Int) ≤ (g : Int) := by omega
            have hg1 : (g : Int) < 16 := by omega
            rw [Int.toNat_natCast] at HREL
            have HC := Lib.hid (fun W hW => show _ ∧ _ ∧ _ ∧ _ from ⟨(HCC.out W hW).1, (HCC.out W hW).2.1, (HCC.out W hW).2.2, HBS2.out g hg16 W hW⟩)
            generalize (T g).p = gp at *
            by_cases h2 : tp < gp
            · have HS := Lib.hid (HREL.out.trans (if_pos ⟨hti, h0, .inr h2⟩))
              have h2' : decide (tp < gp) = true := decide_eq_true h2
              clear hti HREL h2
              iterate 32
                with_reducible refine wpQuiet_step ?_
                intro K hK
                go_simp
                first
                  | refine hK _ ?_
                  | refine ⟨_, fun _ _ => rfl, hK _ ?_⟩
                  | (apply Exists.intro
                     refine ⟨fun W hW => ?_, hK _ ?_⟩
                     focus
                       go_at_call 87
                       refine (HR.out W).mono ?_
                       rintro e w3 ⟨rfl, hb⟩
                       exact ⟨rfl, HCn.out _ _ hW hb⟩)
                  | (apply Exists.intro
                     refine ⟨fun W hW => ?_, hK _ ?_⟩
                     focus
                       obtain ⟨⟨a0, a1, a2, a3⟩, ht, ⟨d0, d1, d2, d3, d4, d5, d6, d7⟩, hbs⟩ := HC.out W hW
                       try have hbs0 := hbs
                       clear hW
                       go_simp
                       rfl)
                clear hK K
              with_reducible refine wpQuiet_nil ?_
              intro W hW
              have HB3 := Lib.hid (HC2.out W hW)
              go_wp2_with fail
              go_roundw
              case rel => exact ⟨k + 1, by omega, by go_num, by rw [HS.out], HB3⟩
              case measure => simp [intOf]; omega
            · have HS := Lib.hid (HREL.out.trans (if_neg (fun c => by rcases c.2.2 with q | q; exact h1 q; exact h2 q)))
              have h2' : decide (tp < gp) = false := decide_eq_false h2
              clear hti HREL h2
              iterate 32
                with_reducible refine wpQuiet_step ?_
                intro K hK
                go_simp
                first
                  | refine hK _ ?_
                  | refine ⟨_, fun _ _ => rfl, hK _ ?_⟩
                  | (apply Exists.intro
                     refine ⟨fun W hW => ?_, hK _ ?_⟩
                     focus
                       go_at_call 87
                       refine (HR.out W).mono ?_
                       rintro e w3 ⟨rfl, hb⟩
                       exact ⟨rfl, HCn.out _ _ hW hb⟩)
                  | (apply Exists.intro
                     refine ⟨fun W hW => ?_, hK _ ?_⟩
                     focus
                       obtain ⟨⟨a0, a1, a2, a3⟩, ht, ⟨d0, d1, d2, d3, d4, d5, d6, d7⟩, hbs⟩ := HC.out W hW
                       try have hbs0 := hbs
                       clear hW
                       go_simp
                       rfl)
                clear hK K
              with_reducible refine wpQuiet_nil ?_
              intro W hW
              have HB3 := Lib.hid (HC2.out W hW)
              go_wp2_with fail
              go_roundw
              case rel => exact ⟨k + 1, by omega, by go_num, by rw [HS.out], HB3⟩
              case measure => simp [intOf]; omega
        · rw [decide_eq_false h0] at HR
          have HS := Lib.hid (HREL.out.trans (if_neg (fun c => h0 c.2.1)))
          clear hti HREL
          iterate 32
            with_reducible refine wpQuiet_step ?_
            intro K hK
            go_simp
            first
              | refine hK _ ?_
              | refine ⟨_, fun _ _ => rfl, hK _ ?_⟩
              | (apply Exists.intro
                 refine ⟨fun W hW => ?_, hK _ ?_⟩
                 focus
                   go_at_call 87
                   refine (HR.out W).mono ?_
                   rintro e w3 ⟨rfl, hb⟩
                   exact ⟨rfl, HCn.out _ _ hW hb⟩)
              | (apply Exists.intro
                 refine ⟨fun W hW => ?_, hK _ ?_⟩
                 focus
                   obtain ⟨⟨a0, a1, a2, a3⟩, ht, ⟨d0, d1, d2, d3, d4, d5, d6, d7⟩, hbs⟩ := HC.out W hW
                   try have hbs0 := hbs
                   clear hW
                   go_simp
                   rfl)
            clear hK K
          with_reducible refine wpQuiet_nil ?_
          intro W hW
          have HB3 := Lib.hid (HC2.out W hW)
          go_wp2_with fail
          go_roundw
          case rel => exact ⟨k + 1, by omega, by go_num, by rw [HS.out], HB3⟩
          case measure => simp [intOf]; omega
    · obtain rfl : k = 16 := by omega
      go_wp2_with fail
      go_ret
      exact ⟨rfl, bnext HB.out HBX.out⟩
/-- The handle that has the next tick; none: 0. -/
def nxH (A : Tab) (T : Nat → Tk) (last : Int) : Int := if nx A T last < 0 then 0 else A.hd (nx A T last).toNat
set_option maxHeartbeats 2000000 in
set_option maxRecDepth 100000 in
theorem rNext14_no (X : Nat → Prop) (A : Tab) (T : Nat → Tk) (last : Int) (hg : PGood A T last) (gs ts ks : Value) (w : World) (h : DP X w A T gs ts ks) (hz : nx A T last = -1) :
    Calls Tryz.prog 34 #[pv gs ts ks last] w fun e w' => e = .returned (.tuple #[.int .i64 0, .bool false]) ∧ Below w.heap.size w w' := by
  have HNX := Lib.hid (fun W (hb : Below w.heap.size w W) => rnext14 X A T last hg gs ts ks W (h.below hb))
  have HNM := Lib.hid (fun W (hb : Below w.heap.size w W) i (hi : i < 16) (ht : A.t i = true) => rname X A T last hg gs ts ks W (h.below hb) i hi (hg.tab.gt i (by have := hg.len; omega) ht))
  obtain ⟨p, cp, q, cq, r, cr, sl, rfl, rfl, rfl, _, _, _⟩ := h.shape hg
  obtain ⟨WA, hWA⟩ : ∃ WA, WA = w.alloc (.cells #[.slice p 16 cp, .slice q 16 cq, .slice r 16 cr, .int .i64 last] PT14) := ⟨_, rfl⟩
  have HB := Lib.hid (show Below w.heap.size w WA from by rw [hWA]; exact (Below.refl _ _).alloc (Nat.le_refl _) _)
  have HT := Lib.hid (show HasP WA w.heap.size (.slice p 16 cp) (.slice q 16 cq) (.slice r 16 cr) last from by rw [hWA]; exact hasP_new _ _ _ _ _)
  have HW := Lib.hid hWA
  clear hWA h hg
  rw [hz] at HNX
  clear hz
  go_enter Tryz.func34, Tryz.ntmps34
  go_upto_region 1 with fail
  rw [← HW.out]
  obtain ⟨a0, a1, a2, a3⟩ := HT.out.cells
  go_wp2_with fail
  refine (HNX.out WA HB.out).mono ?_
  rintro e w1 ⟨rfl, hb1⟩
  have HB1 := Lib.hid (bnext HB.out hb1)
  have HT1 := Lib.hid (HasP.below HT.out hb1)
  clear hb1 a0 a1 a2 a3
  obtain ⟨a0, a1, a2, a3⟩ := HT1.out.cells
  go_wp2_with fail
  go_ret2
  exact ⟨rfl, HB1.out⟩
set_option maxHeartbeats 2000000 in
set_option maxRecDepth 100000 in
theorem rNext14_yes (X : Nat → Prop) (A : Tab) (T : Nat → Tk) (last : Int) (hg : PGood A T last) (gs ts ks : Value) (w : World) (h : DP X w A T gs ts ks) (i : Nat) (hz : nx A T last = i) (hi : i < 16) (hti : A.t i = true) :
    Calls Tryz.prog 34 #[pv gs ts ks last] w fun e w' => e = .returned (.tuple #[.int .i64 (A.hd i), .bool true]) ∧ Below w.heap.size w w' := by
  have HNX := Lib.hid (fun W (hb : Below w.heap.size w W) => rnext14 X A T last hg gs ts ks W (h.below hb))
  have HNM := Lib.hid (fun W (hb : Below w.heap.size w W) i (hi : i < 16) (ht : A.t i = true) => rname X A T last hg gs ts ks W (h.below hb) i hi (hg.tab.gt i (by have := hg.len; omega) ht))
  obtain ⟨p, cp, q, cq, r, cr, sl, rfl, rfl, rfl, _, _, _⟩ := h.shape hg
  obtain ⟨WA, hWA⟩ : ∃ WA, WA = w.alloc (.cells #[.slice p 16 cp, .slice q 16 cq, .slice r 16 cr, .int .i64 last] PT14) := ⟨_, rfl⟩
  have HB := Lib.hid (show Below w.heap.size w WA from by rw [hWA]; exact (Below.refl _ _).alloc (Nat.le_refl _) _)
  have HT := Lib.hid (show HasP WA w.heap.size (.slice p 16 cp) (.slice q 16 cq) (.slice r 16 cr) last from by rw [hWA]; exact hasP_new _ _ _ _ _)
  have HW := Lib.hid hWA
  clear hWA h hg
  rw [hz] at HNX
  clear hz
  have h2 : (0 : Int) ≤ (i : Int) := by omega
  have HNM1 := Lib.hid (fun W hb => HNM.out W hb i hi hti)
  clear hti HNM
  generalize A.hd i = y at *
  go_enter Tryz.func34, Tryz.ntmps34
  go_upto_region 1 with fail
  rw [← HW.out]
  obtain ⟨a0, a1, a2, a3⟩ := HT.out.cells
  go_wp2_with fail
  refine (HNX.out WA HB.out).mono ?_
  rintro e w1 ⟨rfl, hb1⟩
  have HB1 := Lib.hid (bnext HB.out hb1)
  have HT1 := Lib.hid (HasP.below HT.out hb1)
  clear hb1 a0 a1 a2 a3
  obtain ⟨a0, a1, a2, a3⟩ := HT1.out.cells
  have HNM2 := Lib.hid (HNM1.out w1 HB1.out)
  go_wp2_with fail
  refine HNM2.out.mono ?_
  rintro e w2 ⟨rfl, hb2⟩
  go_wp2_with fail
  go_ret2
  exact ⟨rfl, bnext HB1.out hb2⟩
theorem rNext14 (X : Nat → Prop) (A : Tab) (T : Nat → Tk) (last : Int) (hg : PGood A T last) (gs ts ks : Value) (w : World) (h : DP X w A T gs ts ks) :
    Calls Tryz.prog 34 #[pv gs ts ks last] w fun e w' => e = .returned (.tuple #[.int .i64 (nxH A T last), .bool (decide (0 ≤ nx A T last))]) ∧ Below w.heap.size w w' := by
  unfold nxH
  rcases (nxS_in (t := A.t) (T := T) (last := last) 16 : nx A T last = -1 ∨ _) with hz | ⟨i, hz, hi, hti, _⟩
  · have hz' : nx A T last = -1 := hz
    rw [hz', if_pos (by decide), show decide ((0 : Int) ≤ -1) = false from rfl]
    exact rNext14_no X A T last hg gs ts ks w h hz'
  · have hz' : nx A T last = i := hz
    rw [hz', if_neg (by omega), Int.toNat_natCast, decide_eq_true (by omega : (0 : Int) ≤ (i : Int))]
    exact rNext14_yes X A T last hg gs ts ks w h i hz' hi hti
end Go.Proofs.YtedgchafligndaaGreat
/- The document's own pool: Give; no condition but those that each row names. -/
namespace Go.Proofs.YtedgchafligndaaGreat
open Go.RowKit Tsk

theorem HasP.setLast {W : World} {g : Nat} {gs ts ks : Value} {last z : Int} (h : HasP W g gs ts ks last) : HasP (W.setCell ⟨g, 3, none⟩ (.int .i64 z)) g gs ts ks z := h.set3
/-- A store into a box behind the rows' base, in which no job lies. -/
theorem Own14.box {B : Nat} {w w' : World} {gl : List Int} {tl : List Bool} {T : Nat → Tk} {g1 c1 g2 c2 g3 c3 : Nat} {sl : Nat → Value} {qb : Nat} (h : P14 B w gl tl T g1 c1 g2 c2 g3 c3 sl) (hk : Keeps (fun x => x = qb) w w') (hn : qb ≠ g1 ∧ qb ≠ g2 ∧ qb ≠ g3) (hj : ∀ i, i < 16 → JobsX (fun x => x = qb) w (sl i) (T i).n (T i).f) : P14 B w' gl tl T g1 c1 g2 c2 g3 c3 sl := by
  refine ⟨own_keep h.g hk (fun b e k => ?_), own_keep h.t hk (fun b e k => ?_), own_keep h.k hk (fun b e k => ?_), fun i hi => ⟨((hj i hi).keeps hk (fun x e => e)).1, (h.j i hi).2⟩, h.n12, h.n13, h.n23⟩
  · cases e; exact hn.1 k.symm
  · cases e; exact hn.2.1 k.symm
  · cases e; exact hn.2.2 k.symm
/-- What Give answers. -/
def GiveR (X : Nat → Prop) (w : World) (A : Tab) (T : Nat → Tk) (last h m l : Int) (b : Bool) (e : Ending) (w' : World) : Prop := ∃ gs ts ks, e = .returned (.tuple #[pv gs ts ks last, .int .i64 h, .int .i64 m, .int .i64 l, .bool b]) ∧ DP X w' A T gs ts ks ∧ Below w.heap.size w w'
set_option maxHeartbeats 8000000 in
set_option maxRecDepth 100000 in
theorem rgive14_none (X : Nat → Prop) (A : Tab) (T : Nat → Tk) (last : Int) (hg : PGood A T last) (gs ts ks : Value) (w : World) (h : DP X w A T gs ts ks) (_hX : ∀ x, X x → x < w.heap.size) (now : Int) (hz : nx A T last = -1) :
    Calls Tryz.prog 43 #[pv gs ts ks last, .int .i64 now] w (GiveR X w A T last 0 0 0 false) := by
  have HNX := Lib.hid (fun W (hb : Below w.heap.size w W) => rnext14 X A T last hg gs ts ks W (h.below hb))
  rw [hz] at HNX
  have HD := Lib.hid h
  obtain ⟨p, cp, q, cq, r, cr, sl, rfl, rfl, rfl, _, _, _⟩ := h.shape hg
  obtain ⟨WA, hWA⟩ : ∃ WA, WA = (w.alloc (.cells #[.slice p 16 cp, .slice q 16 cq, .slice r 16 cr, .int .i64 last] PT14)).alloc (.cells #[.slice none 0 0, .slice none 0 0, .slice none 0 0, .int .i64 0] PT14) := ⟨_, rfl⟩
  have HB := Lib.hid (show Below w.heap.size w WA ∧ WA.heap.size = w.heap.size + 2 from by rw [hWA]; exact ⟨((Below.refl _ _).alloc (Nat.le_refl _) _).alloc (by simp) _, by simp⟩)
  have HT := Lib.hid (show HasP WA w.heap.size (.slice p 16 cp) (.slice q 16 cq) (.slice r 16 cr) last ∧ HasP WA (w.heap.size + 1) (.slice none 0 0) (.slice none 0 0) (.slice none 0 0) 0 from by rw [hWA]; exact ⟨has_old (hasP_new _ _ _ _ _) _, has_new _ _ _ (by simp)⟩)
  have HW := Lib.hid hWA
  clear hWA h hg hz _hX
  go_enter Tryz.func43, Tryz.ntmps43
  go_upto_region 1 with fail
  rw [← HW.out]
  obtain ⟨a0, a1, a2, a3⟩ := HasP.cells HT.out.1
  go_wp2_with fail
  refine (HNX.out WA HB.out.1).mono ?_
  rintro e w1 ⟨rfl, hb1⟩
  have HB1 := Lib.hid (bnext HB.out.1 hb1)
  have HT1 := Lib.hid (show _ ∧ _ from ⟨HT.out.1.below hb1, HT.out.2.below hb1⟩)
  clear hb1 a0 a1 a2 a3
  obtain ⟨a0, a1, a2, a3⟩ := HasP.cells HT1.out.1
  obtain ⟨y0, y1, y2, y3⟩ := HasP.cells HT1.out.2
  have fr := fun j => has_free HT1.out.2 j
  go_wp2_with fail
  refine bodyPost_ret (v := .tuple #[pv (.slice p 16 cp) (.slice q 16 cq) (.slice r 16 cr) last, .int .i64 0, .int .i64 0, .int .i64 0, .bool false]) (by simp [results, Tryz.results43, go_sem, y0, y1, y2, y3]) rfl ?_
  have hbel := below4p HB1.out (g := w.heap.size + 1) (by omega) (.slice p 16 cp) (.slice q 16 cq) (.slice r 16 cr) (.int .i64 last)
  exact ⟨_, _, _, rfl, HD.out.below hbel, hbel⟩
set_option maxHeartbeats 8000000 in
set_option maxRecDepth 100000 in
theorem rgive14_no (X : Nat → Prop) (A : Tab) (T : Nat → Tk) (last : Int) (hg : PGood A T last) (gs ts ks : Value) (w : World) (h : DP X w A T gs ts ks) (hX : ∀ x, X x → x < w.heap.size) (now : Int) (i : Nat) (hz : nx A T last = i) (hi16 : i < 16) (_hti0 : A.t i = true) (hE : runE (T i).p (T i).n (T i).f (T i).k now ≠ 0) :
    Calls Tryz.prog 43 #[pv gs ts ks last, .int .i64 now] w (GiveR X w A T last 0 0 0 false) := by
  have HNX := Lib.hid (fun W (hb : Below w.heap.size w W) => rnext14 X A T last hg gs ts ks W (h.below hb))
  rw [hz] at HNX
  have HTW := Lib.hid (fun W (hb : Below w.heap.size w W) => rtwin14 X A T last hg gs ts ks W (h.below hb))
  have HD := Lib.hid h
  have HX := Lib.hid hX
  have HGD := Lib.hid hg
  have hlen := hg.len
  have hlt := hg.tab.lt
  have HLN := Lib.hid (⟨hlen, hlt⟩ : _ ∧ _)
  obtain ⟨p, cp, q, cq, r, cr, sl, rfl, rfl, rfl, _, _, hT⟩ := h.shape hg
  have hok := hg.ok i
  obtain ⟨_, _, e, _, hc⟩ := hT.tk
  simp only [Value.slice.injEq] at e
  obtain ⟨bk, ok, e2, d0, d1, d2, d3, d4, d5, d6, d7, hJ0⟩ := hc i hi16
  have e3 : r = some ⟨bk, ok, none⟩ := by rw [e.1]; exact e2
  subst e3
  have hbk : bk < w.heap.size := cell_lt d0
  have HJ := Lib.hid hJ0
  obtain ⟨q0, cq0, hq0, _⟩ := hJ0
  dsimp only [tm] at d0 d1 d2 d3 d4 d5 d6 d7 hq0 HJ
  rw [hq0] at d1 HJ
  obtain ⟨t, hti⟩ : ∃ t, t = T i := ⟨_, rfl⟩
  rw [← hti] at d0 d1 d2 d3 d4 d5 d6 d7 HJ hok hE
  obtain ⟨tp, ts', tn, tf, ⟨kg, ko, kn, kd, kc, kt⟩⟩ := t
  dsimp only at d0 d1 d2 d3 d4 d5 d6 d7 HJ hE
  have hn8 : tn ≤ 8 := hok.2.1
  have HN8 := Lib.hid hn8
  have HRU := Lib.hid (fun W (hb : Below w.heap.size w W) => rrun_any2 tp (.slice q0 tn cq0) tn tf ⟨kg, ko, kn, kd, kc, kt⟩ now W (HJ.out.below hb))
  have HXC := Lib.hid (fun W (hb : Below w.heap.size w W) => show _ ∧ _ ∧ _ ∧ _ ∧ _ ∧ _ ∧ _ ∧ _ from ⟨(hb.cell (p := ⟨bk, ok + i * 8, none⟩) hbk).trans d0, (hb.cell (p := ⟨bk, ok + i * 8 + 1, none⟩) hbk).trans d1, (hb.cell (p := ⟨bk, ok + i * 8 + 2, none⟩) hbk).trans d2, (hb.cell (p := ⟨bk, ok + i * 8 + 3, none⟩) hbk).trans d3, (hb.cell (p := ⟨bk, ok + i * 8 + 4, none⟩) hbk).trans d4, (hb.cell (p := ⟨bk, ok + i * 8 + 5, none⟩) hbk).trans d5, (hb.cell (p := ⟨bk, ok + i * 8 + 6, none⟩) hbk).trans d6, (hb.cell (p := ⟨bk, ok + i * 8 + 7, none⟩) hbk).trans d7⟩)
  obtain ⟨WA, hWA⟩ : ∃ WA, WA = (w.alloc (.cells #[.slice p 16 cp, .slice q 16 cq, .slice (some ⟨bk, ok, none⟩) 16 cr, .int .i64 last] PT14)).alloc (.cells #[.slice none 0 0, .slice none 0 0, .slice none 0 0, .int .i64 0] PT14) := ⟨_, rfl⟩
  have HB := Lib.hid (show Below w.heap.size w WA ∧ WA.heap.size = w.heap.size + 2 from by rw [hWA]; exact ⟨((Below.refl _ _).alloc (Nat.le_refl _) _).alloc (by simp) _, by simp⟩)
  have HT := Lib.hid (show HasP WA w.heap.size (.slice p 16 cp) (.slice q 16 cq) (.slice (some ⟨bk, ok, none⟩) 16 cr) last ∧ HasP WA (w.heap.size + 1) (.slice none 0 0) (.slice none 0 0) (.slice none 0 0) 0 from by rw [hWA]; exact ⟨has_old (hasP_new _ _ _ _ _) _, has_new _ _ _ (by simp)⟩)
  have HW := Lib.hid hWA
  have e0 : (0 : Int) ≤ (i : Int) := by omega
  have e1 : (i : Int) < 16 := by omega
  have ed : decide ((i : Int) < 0) = false := decide_eq_false (by omega)
  clear hWA h hX hT hc e e2 hti d0 d1 d2 d3 d4 d5 d6 d7 hq0 hok hbk hn8 hlen hlt hz hg _hti0
  obtain ⟨E, hEE⟩ : ∃ E, E = runE tp tn tf ⟨kg, ko, kn, kd, kc, kt⟩ now := ⟨_, rfl⟩
  rw [← hEE] at HRU hE
  clear hEE
  simp only [if_neg hE] at HRU
  have g1 : (E != 0) = true := by simpa using hE
  clear hE
  go_enter Tryz.func43, Tryz.ntmps43
  go_upto_region 1 with fail
  rw [← HW.out]
  obtain ⟨a0, a1, a2, a3⟩ := HasP.cells HT.out.1
  go_wp2_with fail
  refine (HNX.out WA HB.out.1).mono ?_
  rintro e w1 ⟨rfl, hb1⟩
  have HB1 := Lib.hid (bnext HB.out.1 hb1)
  have HT1 := Lib.hid (show _ ∧ _ from ⟨HT.out.1.below hb1, HT.out.2.below hb1⟩)
  have HS1 := Lib.hid (show w.heap.size + 2 ≤ w1.heap.size from by have := HB.out.2; have := hb1.size; omega)
  clear hb1 a0 a1 a2 a3
  obtain ⟨a0, a1, a2, a3⟩ := HasP.cells HT1.out.1
  obtain ⟨d0, d1, d2, d3, d4, d5, d6, d7⟩ := HXC.out w1 HB1.out
  go_wp2_with fail
  refine (HRU.out w1 HB1.out).mono ?_
  rintro e w2 ⟨xx, rfl, s2, rfl, hj2, hb2⟩
  obtain ⟨⟨r2, cr2, rfl, _⟩, _⟩ := id hj2
  have hs2 := hb2.size
  have HB2 := Lib.hid (bnext HB1.out hb2)
  have HK2 := Lib.hid (show _ ∧ _ from ⟨HasP.below HT1.out.1 hb2, HasP.below HT1.out.2 hb2⟩)
  have hl : w.heap.size + 1 < w2.heap.size := has_lt HK2.out.2
  have hl0 : w.heap.size < w2.heap.size := by omega
  have HL2 := Lib.hid hl
  clear hb2 hs2 hj2 a0 a1 a2 a3 d0 d1 d2 d3 d4 d5 d6 d7
  obtain ⟨a0, a1, a2, a3⟩ := HasP.cells HK2.out.1
  obtain ⟨y0, y1, y2, y3⟩ := HasP.cells HK2.out.2
  have fr := fun j => has_free HK2.out.2 j
  go_wp2_with fail
  refine bodyPost_ret (v := .tuple #[pv (.slice p 16 cp) (.slice q 16 cq) (.slice (some ⟨bk, ok, none⟩) 16 cr) last, .int .i64 0, .int .i64 0, .int .i64 0, .bool false]) (by simp [results, Tryz.results43, go_sem, y0, y1, y2, y3, hl]) rfl ?_
  have hbel := (below4p HB2.out (g := w.heap.size + 1) (by omega) (.slice p 16 cp) (.slice q 16 cq) (.slice (some ⟨bk, ok, none⟩) 16 cr) (.int .i64 last)).alloc (by have := HL2.out; simp [World.setCell]; omega) (.cells #[.int .i64 0, .slice r2 0 cr2, .int .i64 0, .int .i64 0, .int .i64 0, .int .i64 0, .int .i64 0, .int .i64 0] KT)
  exact ⟨_, _, _, rfl, HD.out.below hbel, hbel⟩
set_option maxHeartbeats 8000000 in
set_option maxRecDepth 100000 in
theorem rgive14_yes (X : Nat → Prop) (A : Tab) (T : Nat → Tk) (last : Int) (hg : PGood A T last) (gs ts ks : Value) (w : World) (h : DP X w A T gs ts ks) (hX : ∀ x, X x → x < w.heap.size) (now : Int) (i : Nat) (hz : nx A T last = i) (hi16 : i < 16) (hti0 : A.t i = true) (hE : runE (T i).p (T i).n (T i).f (T i).k now = 0) :
    Calls Tryz.prog 43 #[pv gs ts ks last, .int .i64 now] w (GiveR X w A (upd T i (tkRun (T i) sN now)) i (A.hd i) (runW ((T i).f 0)) (runL ((T i).f 0) now) true) := by
  have hgl : A.g i ≤ 1023 := hg.tab.gt i (by have := hg.len; omega) hti0
  have HGI := Lib.hid hgl
  have HPG := Lib.hid (show PGood A (upd T i (tkRun (T i) sN now)) i from ⟨hg.tab, hg.kind, hg.len, upd_okTk hg.ok i (run_ok sN hE), by omega, by omega⟩)
  clear hgl
  have HNX := Lib.hid (fun W (hb : Below w.heap.size w W) => rnext14 X A T last hg gs ts ks W (h.below hb))
  rw [hz] at HNX
  have HTW := Lib.hid (fun W (hb : Below w.heap.size w W) => rtwin14 X A T last hg gs ts ks W (h.below hb))
  have HD := Lib.hid h
  have HX := Lib.hid hX
  have HGD := Lib.hid hg
  have hlen := hg.len
  have hlt := hg.tab.lt
  have HLN := Lib.hid (⟨hlen, hlt⟩ : _ ∧ _)
  obtain ⟨p, cp, q, cq, r, cr, sl, rfl, rfl, rfl, _, _, hT⟩ := h.shape hg
  have hok := hg.ok i
  obtain ⟨_, _, e, _, hc⟩ := hT.tk
  simp only [Value.slice.injEq] at e
  obtain ⟨bk, ok, e2, d0, d1, d2, d3, d4, d5, d6, d7, hJ0⟩ := hc i hi16
  have e3 : r = some ⟨bk, ok, none⟩ := by rw [e.1]; exact e2
  subst e3
  have hbk : bk < w.heap.size := cell_lt d0
  have HJ := Lib.hid hJ0
  obtain ⟨q0, cq0, hq0, _⟩ := hJ0
  dsimp only [tm] at d0 d1 d2 d3 d4 d5 d6 d7 hq0 HJ
  rw [hq0] at d1 HJ
  obtain ⟨t, hti⟩ : ∃ t, t = T i := ⟨_, rfl⟩
  rw [← hti] at d0 d1 d2 d3 d4 d5 d6 d7 HJ hok hE HPG ⊢
  obtain ⟨tp, ts', tn, tf, ⟨kg, ko, kn, kd, kc, kt⟩⟩ := t
  dsimp only at d0 d1 d2 d3 d4 d5 d6 d7 HJ hE HPG ⊢
  have hn8 : tn ≤ 8 := hok.2.1
  have HN8 := Lib.hid hn8
  have HRU := Lib.hid (fun W (hb : Below w.heap.size w W) => rrun_any2 tp (.slice q0 tn cq0) tn tf ⟨kg, ko, kn, kd, kc, kt⟩ now W (HJ.out.below hb))
  have HXC := Lib.hid (fun W (hb : Below w.heap.size w W) => show _ ∧ _ ∧ _ ∧ _ ∧ _ ∧ _ ∧ _ ∧ _ from ⟨(hb.cell (p := ⟨bk, ok + i * 8, none⟩) hbk).trans d0, (hb.cell (p := ⟨bk, ok + i * 8 + 1, none⟩) hbk).trans d1, (hb.cell (p := ⟨bk, ok + i * 8 + 2, none⟩) hbk).trans d2, (hb.cell (p := ⟨bk, ok + i * 8 + 3, none⟩) hbk).trans d3, (hb.cell (p := ⟨bk, ok + i * 8 + 4, none⟩) hbk).trans d4, (hb.cell (p := ⟨bk, ok + i * 8 + 5, none⟩) hbk).trans d5, (hb.cell (p := ⟨bk, ok + i * 8 + 6, none⟩) hbk).trans d6, (hb.cell (p := ⟨bk, ok + i * 8 + 7, none⟩) hbk).trans d7⟩)
  obtain ⟨WA, hWA⟩ : ∃ WA, WA = (w.alloc (.cells #[.slice p 16 cp, .slice q 16 cq, .slice (some ⟨bk, ok, none⟩) 16 cr, .int .i64 last] PT14)).alloc (.cells #[.slice none 0 0, .slice none 0 0, .slice none 0 0, .int .i64 0] PT14) := ⟨_, rfl⟩
  have HB := Lib.hid (show Below w.heap.size w WA ∧ WA.heap.size = w.heap.size + 2 from by rw [hWA]; exact ⟨((Below.refl _ _).alloc (Nat.le_refl _) _).alloc (by simp) _, by simp⟩)
  have HT := Lib.hid (show HasP WA w.heap.size (.slice p 16 cp) (.slice q 16 cq) (.slice (some ⟨bk, ok, none⟩) 16 cr) last ∧ HasP WA (w.heap.size + 1) (.slice none 0 0) (.slice none 0 0) (.slice none 0 0) 0 from by rw [hWA]; exact ⟨has_old (hasP_new _ _ _ _ _) _, has_new _ _ _ (by simp)⟩)
  have HW := Lib.hid hWA
  have e0 : (0 : Int) ≤ (i : Int) := by omega
  have e1 : (i : Int) < 16 := by omega
  have ed : decide ((i : Int) < 0) = false := decide_eq_false (by omega)
  clear hWA h hX hT hc e e2 hti d0 d1 d2 d3 d4 d5 d6 d7 hq0 hok hbk hn8 hlen hlt hz hg hti0
  rw [hE] at HRU
  simp only [if_true] at HRU
  unfold tkRun at HPG ⊢
  dsimp only at HPG ⊢
  clear hE
  generalize runL (tf 0) now = lt at *
  obtain ⟨kk, hkk⟩ : ∃ kk, kk = runK ⟨kg, ko, kn, kd, kc, kt⟩ (tf 0) now := ⟨_, rfl⟩
  rw [← hkk] at HRU HPG ⊢
  clear hkk
  obtain ⟨rg, ro, rnn, rd, rc, rt⟩ := kk
  generalize runW (tf 0) = wt at *
  have HRN := Lib.hid (show runN tn (tf 0) ≤ 8 from by have := HN8.out; unfold runN; split <;> omega)
  generalize runN tn (tf 0) = rn at *
  generalize runF tf = rf at *
  go_enter Tryz.func43, Tryz.ntmps43
  go_upto_region 1 with fail
  rw [← HW.out]
  obtain ⟨a0, a1, a2, a3⟩ := HasP.cells HT.out.1
  go_wp2_with fail
  refine (HNX.out WA HB.out.1).mono ?_
  rintro e w1 ⟨rfl, hb1⟩
  have HB1 := Lib.hid (bnext HB.out.1 hb1)
  have HT1 := Lib.hid (show _ ∧ _ from ⟨HT.out.1.below hb1, HT.out.2.below hb1⟩)
  have HS1 := Lib.hid (show w.heap.size + 2 ≤ w1.heap.size from by have := HB.out.2; have := hb1.size; omega)
  clear hb1 a0 a1 a2 a3
  obtain ⟨a0, a1, a2, a3⟩ := HasP.cells HT1.out.1
  obtain ⟨d0, d1, d2, d3, d4, d5, d6, d7⟩ := HXC.out w1 HB1.out
  go_wp2_with fail
  refine (HRU.out w1 HB1.out).mono ?_
  rintro e w2 ⟨xx, rfl, s2, rfl, hj2, hb2⟩
  obtain ⟨⟨r2, cr2, rfl, _⟩, _⟩ := id hj2
  have hs2 := hb2.size
  obtain ⟨W2, hW2⟩ : ∃ W2, W2 = w2.alloc (.cells #[.int .i64 tp, .slice r2 rn cr2, .int .i64 rg, .int .i64 ro, .int .i64 rnn, .int .i64 rd, .int .i64 rc, .int .i64 rt] KT) := ⟨_, rfl⟩
  have HB2 := Lib.hid (show Below w.heap.size w W2 ∧ w.heap.size + 2 ≤ w2.heap.size ∧ W2.heap.size = w2.heap.size + 1 from by
    have h1 := bnext HB1.out hb2
    have h2 := HS1.out
    rw [hW2]
    exact ⟨h1.alloc h1.size _, by omega, by simp⟩)
  have HK2 := Lib.hid (show HasP W2 w.heap.size (.slice p 16 cp) (.slice q 16 cq) (.slice (some ⟨bk, ok, none⟩) 16 cr) last ∧ HasP W2 (w.heap.size + 1) (.slice none 0 0) (.slice none 0 0) (.slice none 0 0) 0 ∧ HasT W2 w2.heap.size tp (.slice r2 rn cr2) ⟨rg, ro, rnn, rd, rc, rt⟩ from by
    rw [hW2]; exact ⟨has_old (HasP.below HT1.out.1 hb2) _, has_old (HasP.below HT1.out.2 hb2) _, hasT_new w2 tp _ ⟨rg, ro, rnn, rd, rc, rt⟩⟩)
  have HJ2 := Lib.hid (show JobsX (fun x => x < w.heap.size + 2) W2 (.slice r2 rn cr2) rn rf from by
    have h2 := HS1.out
    rw [hW2]
    refine JobsX.below ⟨hj2.1, fun a m c e h0 k => ?_⟩ ((Below.refl _ _).alloc (Nat.le_refl _) _)
    have hm : 0 < m := by cases e; exact h0
    have h3 := hj2.2 a m c e hm
    omega)
  have HW2 := Lib.hid hW2
  clear hW2 hb2 hs2 hj2 a0 a1 a2 a3 d0 d1 d2 d3 d4 d5 d6 d7
  go_upto_region 5 with fail
  rw [← HW2.out]
  obtain ⟨b, hb⟩ : ∃ b, b = w2.heap.size := ⟨_, rfl⟩
  rw [← hb] at HB2 HK2 ⊢
  clear hb HW2
  obtain ⟨a0, a1, a2, a3⟩ := HasP.cells HK2.out.1
  have HTW1 := Lib.hid (HTW.out W2 HB2.out.1)
  go_wp2_with fail
  refine HTW1.out.mono ?_
  rintro e w3 ⟨gs2, ts2, ks2, sl2, rfl, ho2, hb3⟩
  obtain ⟨g1, c1, g2, c2, g3, c3, rfl, rfl, rfl, y1', y2', y3', n1, n2, n3⟩ := ho2.blocks
  have hw2 := hb3.size
  have HJ3 := Lib.hid (show JobsX (fun x => x < w.heap.size + 2 ∨ x = g1 ∨ x = g2 ∨ x = g3) w3 _ _ _ from (HJ2.out.mono (fun x hx q => by rcases q with q | q | q | q; exact q; omega; omega; omega)).below hb3)
  have HO2 := Lib.hid (ho2.lower (B' := w.heap.size + 2) (by have := HB2.out; omega))
  have HB3 := Lib.hid hb3
  clear ho2 hb3 a0 a1 a2 a3
  go_upto_region 8 with fail
  obtain ⟨W3, hW3⟩ : ∃ W3, W3 = w3.alloc (.cells #[.slice (some ⟨g1, 0, none⟩) 16 c1, .slice (some ⟨g2, 0, none⟩) 16 c2, .slice (some ⟨g3, 0, none⟩) 16 c3, .int .i64 last] PT14) := ⟨_, rfl⟩
  rw [← hW3]
  have HW3 := Lib.hid (show Below w3.heap.size w3 W3 ∧ HasP W3 w3.heap.size (.slice (some ⟨g1, 0, none⟩) 16 c1) (.slice (some ⟨g2, 0, none⟩) 16 c2) (.slice (some ⟨g3, 0, none⟩) 16 c3) last from by rw [hW3]; exact ⟨(Below.refl _ _).alloc (Nat.le_refl _) _, hasP_new _ _ _ _ _⟩)
  have HO3 := Lib.hid (HO2.out.under HW3.out.1)
  clear hW3
  have k1 := (World.ownsRow.cellAt HO3.out.g i (by omega)).trans (ints_at (by have := HLN.out; omega))
  have k2 := (World.ownsRow.cellAt HO3.out.t i (by omega)).trans (bools_at (by have := HLN.out; omega))
  have q := fun (r : Nat) (hr : r < 8) => (World.ownsRow.cellAt HO3.out.k (i * 8 + r) (by omega)).trans (tkL_at (tm T sl2) hi16 r hr)
  have u0 := q 0 (by omega)
  have u1 := q 1 (by omega)
  have u2 := q 2 (by omega)
  have u3 := q 3 (by omega)
  have u4 := q 4 (by omega)
  have u5 := q 5 (by omega)
  have u6 := q 6 (by omega)
  have u7 := q 7 (by omega)
  rw [Nat.add_zero] at u0
  generalize prtT (tm T sl2 i) 0 = v0 at *
  generalize prtT (tm T sl2 i) 1 = v1 at *
  generalize prtT (tm T sl2 i) 2 = v2 at *
  generalize prtT (tm T sl2 i) 3 = v3 at *
  generalize prtT (tm T sl2 i) 4 = v4 at *
  generalize prtT (tm T sl2 i) 5 = v5 at *
  generalize prtT (tm T sl2 i) 6 = v6 at *
  generalize prtT (tm T sl2 i) 7 = v7 at *
  have f1 := fun j => World.ownsRow.frozenAt HO3.out.g j
  have f2 := fun j => World.ownsRow.frozenAt HO3.out.t j
  have f3 := fun j => World.ownsRow.frozenAt HO3.out.k j
  obtain ⟨x0, x1, x2, x3⟩ := HW3.out.2.cells
  have fq := fun j => has_free HW3.out.2 j
  clear q
  have HJQ := Lib.hid (show (∀ j, j < 16 → JobsX (fun x => x = g3 ∨ x = w3.heap.size) W3 (sl2 j) (T j).n (T j).f) ∧ JobsX (fun x => x = g3 ∨ x = w3.heap.size) W3 (.slice r2 rn cr2) rn rf from
    ⟨fun j hj => ((HO2.out.j j hj).mono (fun x hx q => by rcases q with q | q; exact .inr (.inr (.inr (by rw [q]; rfl))); omega)).below HW3.out.1, (HJ3.out.mono (fun x hx q => by rcases q with q | q; exact .inr (.inr (.inr q)); omega)).below HW3.out.1⟩)
  have HTT3 := Lib.hid (HasT.below HK2.out.2.2 (bnext HB3.out HW3.out.1))
  have HZ3 := Lib.hid (HasP.below (HasP.below HK2.out.2.1 HB3.out) HW3.out.1)
  have HBW := Lib.hid (bnext HB2.out.1 (bnext HB3.out HW3.out.1))
  have HJ4 := Lib.hid (HJ3.out.below HW3.out.1)
  obtain ⟨t0, t1, t2, t3, t4, t5, t6, t7⟩ := HTT3.out.cells
  obtain ⟨z0, z1, z2, z3⟩ := HZ3.out.cells
  have fz := fun j => has_free HZ3.out j
  have hbl := HB2.out
  have m1 : ¬ g1 = w3.heap.size := by omega
  have m2 : ¬ g2 = w3.heap.size := by omega
  have m3 : ¬ g3 = w3.heap.size := by omega
  have m4 : ¬ g1 = w.heap.size + 1 := by omega
  have m5 : ¬ g2 = w.heap.size + 1 := by omega
  have m6 : ¬ g3 = w.heap.size + 1 := by omega
  have m7 : ¬ g2 = b := by omega
  have m8 : ¬ g3 = b := by omega
  have m9 : ¬ w3.heap.size = w.heap.size + 1 := by omega
  have m10 : ¬ w.heap.size + 1 = w3.heap.size := by omega
  have n1' : ¬ g2 = g1 := fun e => n1 e.symm
  have n2' : ¬ g3 = g1 := fun e => n2 e.symm
  have n3' : ¬ g3 = g2 := fun e => n3 e.symm
  have HLOW := Lib.hid (show w.heap.size ≤ g3 ∧ w.heap.size ≤ w3.heap.size ∧ w3.heap.size < W3.heap.size from ⟨by omega, by omega, has_lt HW3.out.2⟩)
  have HLO2 := Lib.hid (show ∀ x, x = w3.heap.size → x ≠ g1 ∧ x ≠ g2 ∧ x ≠ g3 from fun x e => by omega)
  clear hbl hw2
  go_upto_region 9 with fail
  obtain ⟨W4, hW4⟩ : ∃ W4, W4 = (((((((W3.setCell ⟨g3, i * 8, none⟩ (.int .i64 tp)).setCell ⟨g3, i * 8 + 1, none⟩ (.slice r2 rn cr2)).setCell ⟨g3, i * 8 + 2, none⟩ (.int .i64 rg)).setCell ⟨g3, i * 8 + 3, none⟩ (.int .i64 ro)).setCell ⟨g3, i * 8 + 4, none⟩ (.int .i64 rnn)).setCell ⟨g3, i * 8 + 5, none⟩ (.int .i64 rd)).setCell ⟨g3, i * 8 + 6, none⟩ (.int .i64 rc)).setCell ⟨g3, i * 8 + 7, none⟩ (.int .i64 rt) := ⟨_, rfl⟩
  rw [← hW4]
  have HK4 := Lib.hid (show Keeps (fun x => x = g3) W3 W4 from by rw [hW4]; exact far_set8 (Keeps.refl _ _) g3 i ⟨tp, .slice r2 rn cr2, 0, fun _ => ⟨0, 0, 0, 0⟩, ⟨rg, ro, rnn, rd, rc, rt⟩⟩ rfl)
  have HO4 := Lib.hid (show P14 (w.heap.size + 2) W4 A.gens A.taken (upd T i ⟨tp, sN, rn, rf, ⟨rg, ro, rnn, rd, rc, rt⟩⟩) g1 c1 g2 c2 g3 c3 (upd sl2 i (.slice r2 rn cr2)) from by rw [hW4]; exact HO3.out.setK i tp (.slice r2 rn cr2) rn rf ⟨rg, ro, rnn, rd, rc, rt⟩ sN HJ4.out)
  have HB4 := Lib.hid (show Below w.heap.size w W4 from below_keeps HBW.out HK4.out (fun x q => q ▸ HLOW.out.1))
  have HQ4 := Lib.hid (show HasP W4 w3.heap.size (.slice (some ⟨g1, 0, none⟩) 16 c1) (.slice (some ⟨g2, 0, none⟩) 16 c2) (.slice (some ⟨g3, 0, none⟩) 16 c3) last from has_keeps HW3.out.2 HK4.out (fun e => m3 e.symm))
  have HZ4 := Lib.hid (show HasP W4 (w.heap.size + 1) _ _ _ _ from has_keeps HZ3.out HK4.out (fun e => m6 e.symm))
  clear hW4 k1 k2 u0 u1 u2 u3 u4 u5 u6 u7 f1 f2 f3 x0 x1 x2 x3 fq t0 t1 t2 t3 t4 t5 t6 t7 z0 z1 z2 z3 fz
  obtain ⟨x0, x1, x2, x3⟩ := HasP.cells HQ4.out
  have fq := fun j => has_free HQ4.out j
  go_upto_region 10 with fail
  obtain ⟨W5, hW5⟩ : ∃ W5, W5 = W4.setCell ⟨w3.heap.size, 3, none⟩ (.int .i64 i) := ⟨_, rfl⟩
  rw [← hW5]
  have HJQ4 := Lib.hid (show ∀ j, j < 16 → JobsX (fun x => x = w3.heap.size) W4 (upd sl2 i (.slice r2 rn cr2) j) (upd T i ⟨tp, sN, rn, rf, ⟨rg, ro, rnn, rd, rc, rt⟩⟩ j).n (upd T i ⟨tp, sN, rn, rf, ⟨rg, ro, rnn, rd, rc, rt⟩⟩ j).f from fun j hj => by
    by_cases e : j = i
    · subst e
      rw [upd_same, upd_same]
      exact (HJQ.out.2.keeps HK4.out (fun x e => .inl e)).mono (fun x _ e => .inr e)
    · rw [upd_ne _ e, upd_ne _ e]
      exact ((HJQ.out.1 j hj).keeps HK4.out (fun x e => .inl e)).mono (fun x _ e => .inr e))
  have HO5 := Lib.hid (show P14 (w.heap.size + 2) W5 A.gens A.taken (upd T i ⟨tp, sN, rn, rf, ⟨rg, ro, rnn, rd, rc, rt⟩⟩) g1 c1 g2 c2 g3 c3 (upd sl2 i (.slice r2 rn cr2)) from by rw [hW5]; exact HO4.out.box ((Keeps.refl _ W4).setS _ _ rfl) (HLO2.out _ rfl) HJQ4.out)
  have HQ5 := Lib.hid (show HasP W5 w3.heap.size (.slice (some ⟨g1, 0, none⟩) 16 c1) (.slice (some ⟨g2, 0, none⟩) 16 c2) (.slice (some ⟨g3, 0, none⟩) 16 c3) i from by rw [hW5]; exact HasP.set3 HQ4.out)
  have HZ5 := Lib.hid (show HasP W5 (w.heap.size + 1) _ _ _ _ from by rw [hW5]; exact has_other HZ4.out _ _ m9)
  have HB5 := Lib.hid (show Below w.heap.size w W5 from by rw [hW5]; exact below_low HB4.out _ _ HLOW.out.2.1)
  have HS5 := Lib.hid (show w.heap.size + 2 ≤ W5.heap.size from by have := has_lt HZ5.out; omega)
  have HNA := Lib.hid (fun W (hb : Below W5.heap.size W5 W) => rname (fun _ => False) A (upd T i ⟨tp, sN, rn, rf, ⟨rg, ro, rnn, rd, rc, rt⟩⟩) i HPG.out _ _ _ W (Own14.dp (A := A) (HO5.out.under hb) HLN.out.1 (by have := HLN.out; omega) (fun _ k => k.elim)) i hi16 HGI.out)
  clear hW5 x0 x1 x2 x3 fq
  have HCE := Lib.hid (fun W (hb : Below W5.heap.size W5 W) => show _ ∧ _ ∧ (∀ j, W.frozen? ⟨w.heap.size + 1, j, none⟩ = false) from ⟨HasP.cells (HQ5.out.below hb), HasP.cells (HZ5.out.below hb), fun j => has_free (HasP.below HZ5.out hb) j⟩)
  obtain ⟨⟨x0, x1, x2, x3⟩, ⟨z0, z1, z2, z3⟩, fz⟩ := HCE.out W5 (Below.refl _ _)
  generalize A.hd i = hd at *
  generalize w3.heap.size = qb at *
  go_region_law (go_simp; go_at_call 36; refine (HNA.out _ below_drewOne).mono ?_; rintro e wn ⟨rfl, hb⟩; have hq3 := bnext below_drewOne hb; obtain ⟨⟨x0, x1, x2, x3⟩, ⟨z0, z1, z2, z3⟩, fz⟩ := HCE.out wn hq3; have HQ3 := Lib.hid hq3; clear hb hq3)
  all_goals
    go_wp2_with fail
    refine bodyPost_ret (v := .tuple #[pv (.slice (some ⟨g1, 0, none⟩) 16 c1) (.slice (some ⟨g2, 0, none⟩) 16 c2) (.slice (some ⟨g3, 0, none⟩) 16 c3) i, .int .i64 hd, .int .i64 wt, .int .i64 lt, .bool true]) (by simp [results, Tryz.results43, go_sem, z0, z1, z2, z3]) rfl ?_
    have o5 := (HO5.out.under HQ3.out).away (keeps4p (R := fun x => x = w.heap.size + 1) (Keeps.refl _ _) rfl (.slice (some ⟨g1, 0, none⟩) 16 c1) (.slice (some ⟨g2, 0, none⟩) 16 c2) (.slice (some ⟨g3, 0, none⟩) 16 c3) (.int .i64 i)) (fun x e => by omega)
    exact ⟨_, _, _, rfl, Own14.dp (A := A) o5 HLN.out.1 (by have := HLN.out; omega) (fun x hx => by have := HX.out x hx; omega), below4p (bnext HB5.out HQ3.out) (by omega) _ _ _ _⟩
namespace Tsk
/-- Whether Give has a tick: some slot is next and its task runs. -/
def gvU (A : Tab) (T : Nat → Tk) (last now : Int) : Bool := decide (0 ≤ nx A T last ∧ runE (T (nx A T last).toNat).p (T (nx A T last).toNat).n (T (nx A T last).toNat).f (T (nx A T last).toNat).k now = 0)
def gvT (A : Tab) (T : Nat → Tk) (last now : Int) : Nat → Tk := if gvU A T last now = true then upd T (nx A T last).toNat (tkRun (T (nx A T last).toNat) sN now) else T
def gvN (A : Tab) (T : Nat → Tk) (last now : Int) : Int := if gvU A T last now = true then nx A T last else last
def gvH (A : Tab) (T : Nat → Tk) (last now : Int) : Int := if gvU A T last now = true then A.hd (nx A T last).toNat else 0
def gvW (A : Tab) (T : Nat → Tk) (last now : Int) : Int := if gvU A T last now = true then runW ((T (nx A T last).toNat).f 0) else 0
def gvL (A : Tab) (T : Nat → Tk) (last now : Int) : Int := if gvU A T last now = true then runL ((T (nx A T last).toNat).f 0) now else 0
end Tsk
/-- The ways of Give. -/
theorem give_ways (A : Tab) (T : Nat → Tk) (last now : Int) : (gvU A T last now = false ∧ gvT A T last now = T ∧ gvN A T last now = last ∧ gvH A T last now = 0 ∧ gvW A T last now = 0 ∧ gvL A T last now = 0 ∧ (nx A T last = -1 ∨ ∃ i : Nat, nx A T last = i ∧ i < 16 ∧ A.t i = true ∧ runE (T i).p (T i).n (T i).f (T i).k now ≠ 0)) ∨
    ∃ i : Nat, nx A T last = i ∧ i < 16 ∧ A.t i = true ∧ runE (T i).p (T i).n (T i).f (T i).k now = 0 ∧ gvU A T last now = true ∧ gvT A T last now = upd T i (tkRun (T i) sN now) ∧ gvN A T last now = i ∧ gvH A T last now = A.hd i ∧ gvW A T last now = runW ((T i).f 0) ∧ gvL A T last now = runL ((T i).f 0) now := by
  rcases (nxS_in (t := A.t) (T := T) (last := last) 16 : nx A T last = -1 ∨ _) with hz | ⟨i, hz, hi, hti, _⟩
  · have hz : nx A T last = -1 := hz
    have hu : gvU A T last now = false := by unfold gvU; rw [hz]; exact decide_eq_false (fun c => by omega)
    have hn : ¬ gvU A T last now = true := by rw [hu]; decide
    exact .inl ⟨hu, if_neg hn, if_neg hn, if_neg hn, if_neg hn, if_neg hn, .inl hz⟩
  · have hz' : nx A T last = i := hz
    by_cases hE : runE (T i).p (T i).n (T i).f (T i).k now = 0
    · have hu : gvU A T last now = true := by unfold gvU; rw [hz', Int.toNat_natCast]; exact decide_eq_true ⟨by omega, hE⟩
      refine .inr ⟨i, hz', hi, hti, hE, hu, ?_⟩
      unfold gvT gvN gvH gvW gvL
      rw [hu, hz', Int.toNat_natCast]
      exact ⟨rfl, rfl, rfl, rfl, rfl⟩
    · have hu : gvU A T last now = false := by unfold gvU; rw [hz', Int.toNat_natCast]; exact decide_eq_false (fun c => hE c.2)
      have hn : ¬ gvU A T last now = true := by rw [hu]; decide
      exact .inl ⟨hu, if_neg hn, if_neg hn, if_neg hn, if_neg hn, if_neg hn, .inr ⟨i, hz', hi, hti, hE⟩⟩
/-- Give, every way. -/
theorem rgive14 (X : Nat → Prop) (A : Tab) (T : Nat → Tk) (last : Int) (hg : PGood A T last) (gs ts ks : Value) (w : World) (h : DP X w A T gs ts ks) (hX : ∀ x, X x → x < w.heap.size) (now : Int) :
    Calls Tryz.prog 43 #[pv gs ts ks last, .int .i64 now] w (GiveR X w A (gvT A T last now) (gvN A T last now) (gvH A T last now) (gvW A T last now) (gvL A T last now) (gvU A T last now)) := by
  rcases give_ways A T last now with ⟨hu, h1, h2, h3, h4, h5, hw⟩ | ⟨i, hz, hi, hti, hE, hu, h1, h2, h3, h4, h5⟩
  · rw [hu, h1, h2, h3, h4, h5]
    rcases hw with hz | ⟨i, hz, hi, hti, hE⟩
    · exact rgive14_none X A T last hg gs ts ks w h hX now hz
    · exact rgive14_no X A T last hg gs ts ks w h hX now i hz hi hti hE
  · rw [hu, h1, h2, h3, h4, h5]
    exact rgive14_yes X A T last hg gs ts ks w h hX now i hz hi hti hE
end Go.Proofs.YtedgchafligndaaGreat
/- The document's own leaf: handle, first, Ready, Task, All; no condition but those that each row names. -/
namespace Go.Proofs.YtedgchafligndaaGreat
open Go.RowKit Tsk

theorem sl5 {X : Nat → Prop} {w : World} {A : Tab} {T : Nat → Tk} {gs ts ls ks : Value} (h : DL X w A T gs ts ls ks) : IsSl3 gs ts ls ∧ ∃ pk ck, ks = .slice pk 8 ck := by
  obtain ⟨_, hTX⟩ := h.tk
  obtain ⟨pk, ck, e, _⟩ := hTX.tk
  exact ⟨h.rt.sl3, pk, ck, e⟩
/-- What the document's Task answers. -/
def TaskR13 (X : Nat → Prop) (w : World) (A : Tab) (T : Nat → Tk) (x : Int) (e : Ending) (w' : World) : Prop :=
  (A.find x = none → e = .returned (.tuple #[zT, .int .i64 20]) ∧ Below w.heap.size w w') ∧
  ∀ i, A.find x = some i → ∃ s, e = .returned (.tuple #[tV (T i).p s (T i).k, .int .i64 0]) ∧ JobsX X w' s (T i).n (T i).f ∧ Below w.heap.size w w'
end Go.Proofs.YtedgchafligndaaGreat
