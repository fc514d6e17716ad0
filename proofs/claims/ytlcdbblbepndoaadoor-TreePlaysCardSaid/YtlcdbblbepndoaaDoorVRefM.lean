/- The document's own New; no condition but those that each row names. -/
import Derived.Test.YtlcdbblbepndoaaDoorVRefL
import Derived.Test.YtlcdbblbepndoaaDoorVLawA
namespace Go.Proofs.YtlcdbblbepndoaaDoor
open Go.RowKit Tr
/-- What New answers. -/
def RNewT (S : Nat → Prop) (w : World) (e : Ending) (w' : World) : Prop :=
  ∃ s g cap, e = .returned (rtv A0.kind s g cap (nl A0 X0).length) ∧ RS S w' A0 X0 s g cap ∧ Below w.heap.size w w'
theorem nl0 : nl A0 X0 = [(A0.hd 0, 0)] := by
  unfold nl
  rw [pt_x0]
  rfl
theorem addAt_hd (A : Tab) (s : Nat) (v : Int) (k : Nat) : (A.addAt s v).hd k = A.hd k := rfl
theorem addAt_kind (A : Tab) (s : Nat) (v : Int) : (A.addAt s v).kind = A.kind := rfl
theorem zA0 : zA A0 = A0 := by
  have := set_rep 64 0 0
  simp only [zA, A0, Tab.addAt, Tab.new]
  rw [this]
theorem box4_set {W : World} {B : Nat} {k u0 : Int} {a b c u1 u2 u3 : Value} (b0 : W.cell? ⟨B, 0, none⟩ = some (.int .i64 k)) (b1 : W.cell? ⟨B, 1, none⟩ = some a) (b2 : W.cell? ⟨B, 2, none⟩ = some b) (b3 : W.cell? ⟨B, 3, none⟩ = some c) (bl : B < W.heap.size) :
    Box4 B ((((W.setCell ⟨B, 0, none⟩ (.int .i64 u0)).setCell ⟨B, 1, none⟩ u1).setCell ⟨B, 2, none⟩ u2).setCell ⟨B, 3, none⟩ u3) u0 u1 u2 u3 := by
  have hk := keeps4 W B (.int .i64 u0) u1 u2 u3
  refine ⟨?_, ?_, ?_, ?_, Nat.lt_of_lt_of_le bl hk.size⟩
  · exact (World.cell?_setCell_other _ _ _ _ (by simp)).trans ((World.cell?_setCell_other _ _ _ _ (by simp)).trans ((World.cell?_setCell_other _ _ _ _ (by simp)).trans (World.cell?_setCell_same _ _ _ b0)))
  · exact (World.cell?_setCell_other _ _ _ _ (by simp)).trans ((World.cell?_setCell_other _ _ _ _ (by simp)).trans (World.cell?_setCell_same _ _ _ ((World.cell?_setCell_other _ _ _ _ (by simp)).trans b1)))
  · exact (World.cell?_setCell_other _ _ _ _ (by simp)).trans (World.cell?_setCell_same _ _ _ ((World.cell?_setCell_other _ _ _ _ (by simp)).trans ((World.cell?_setCell_other _ _ _ _ (by simp)).trans b2)))
  · exact World.cell?_setCell_same _ _ _ ((World.cell?_setCell_other _ _ _ _ (by simp)).trans ((World.cell?_setCell_other _ _ _ _ (by simp)).trans ((World.cell?_setCell_other _ _ _ _ (by simp)).trans b3)))
set_option maxHeartbeats 300000 in
set_option maxRecDepth 100000 in
theorem rnewT_any (S : Nat → Prop) (w : World) (hS : ∀ b, S b → b < w.heap.size) : Calls Tryd.prog 5 #[] w (RNewT S w) := by
  have HN := Lib.hid (fun w1 (hb : Below w.heap.size w w1) (hl : w.heap.size < w1.heap.size) => rnew_ok (fun x => S x ∨ x = w.heap.size) 1 64 w1 (fun x hx => by rcases hx with hx | hx; have := hS x hx; omega; omega) (by omega) (by omega) (by omega) (by omega))
  have HA := Lib.hid (fun S gs ts ls w h hS => radd_some S (Tab.new 1 64) (new_good (by omega) (by omega) (by omega) (by omega)) 0 0 new_free gs ts ls w h hS)
  have hA0 : (Tab.new 1 64).addAt 0 0 = A0 := rfl
  have hh0 : (Tab.new 1 64).hd 0 = A0.hd 0 := (addAt_hd _ 0 0 0).symm
  rw [hA0, hh0] at HA
  obtain ⟨T0, hT0⟩ : ∃ T0, T0 = Tab.new 1 64 := ⟨_, rfl⟩
  have hk0 : T0.kind = A0.kind := by rw [hT0]; exact (addAt_kind _ 0 0).symm
  rw [← hT0, hk0] at HA
  obtain ⟨k0, hk⟩ : ∃ k0, k0 = A0.kind := ⟨_, rfl⟩
  obtain ⟨h0, hh⟩ : ∃ h0, h0 = A0.hd 0 := ⟨_, rfl⟩
  rw [← hk, ← hh] at HA
  obtain ⟨Aa, hAa⟩ : ∃ Aa, Aa = A0 := ⟨_, rfl⟩
  rw [← hAa] at HA
  have HAE := Lib.hid hAa
  have HKE := Lib.hid hk
  have HHE := Lib.hid hh
  have hk1 : T0.kind = k0 := hk0.trans hk.symm
  have HSB := Lib.hid hS
  have HZ := Lib.hid (show ∀ W, Below (w.alloc (.cells zcells treeT)).heap.size (w.alloc (.cells zcells treeT)) W → (∀ o, o < 5 → ∃ u, W.cell? ⟨w.heap.size, o, none⟩ = some u) ∧ (∀ o, W.frozen? ⟨w.heap.size, o, none⟩ = false) from fun W hb =>
    ⟨fun o ho => by
      rw [hb.cell (by simp)]
      match o, ho with
      | 0, _ => exact ⟨.int .i64 0, by simp⟩
      | 1, _ => exact ⟨.slice none 0 0, by simp⟩
      | 2, _ => exact ⟨.slice none 0 0, by simp⟩
      | 3, _ => exact ⟨.slice none 0 0, by simp⟩
      | 4, _ => exact ⟨.slice none 0 0, by simp⟩, fun o => by rw [hb.frozen (by simp)]; simp⟩)
  clear hk hh hA0 hh0 hk0 hS hAa
  have HT0 := Lib.hid hT0
  have HK1 := Lib.hid hk1
  clear hT0 hk1
  go_enter Tryd.func5, Tryd.ntmps5
  go_wp2_with fail
  refine (HN.out _ ((Below.refl w.heap.size w).alloc (Nat.le_refl _) _) (by simp)).mono ?_
  rw [← HT0.out]
  rintro e w1 ⟨gs, ts, ls, rfl, hrt, hb⟩
  rw [HK1.out]
  obtain ⟨p, cp, q, cq, r, cr, rfl, rfl, rfl⟩ := hrt.shapes
  have HB1 := Lib.hid hb
  have HR1 := Lib.hid hrt
  have hs1 : w.heap.size < w1.heap.size := by have := hb.size; simp at this; omega
  clear hrt hb
  go_wp2_with fail
  have hbw : Below w1.heap.size w1 (w1.alloc (.cells #[.int .i64 k0, .slice p T0.gens.length cp, .slice q T0.taken.length cq, .slice r T0.list.length cr] 28)) := (Below.refl w1.heap.size w1).alloc (Nat.le_refl _) _
  have HSS := Lib.hid (show ∀ b, ((S b ∨ b = w.heap.size) ∨ b = w1.heap.size) → b < (w1.alloc (.cells #[.int .i64 k0, .slice p T0.gens.length cp, .slice q T0.taken.length cq, .slice r T0.list.length cr] 28)).heap.size from fun b hb => by
    have h1 : (w1.alloc (.cells #[.int .i64 k0, .slice p T0.gens.length cp, .slice q T0.taken.length cq, .slice r T0.list.length cr] 28)).heap.size = w1.heap.size + 1 := by simp
    rw [h1]
    rcases hb with (hb | hb) | hb
    · have := HSB.out b hb; omega
    · omega
    · omega)
  have HRT := Lib.hid (show RT (fun x => (S x ∨ x = w.heap.size) ∨ x = w1.heap.size) (w1.alloc (.cells #[.int .i64 k0, .slice p T0.gens.length cp, .slice q T0.taken.length cq, .slice r T0.list.length cr] 28)) T0 _ _ _ from (HR1.out.more w1.heap.size (Nat.le_refl _)).below hbw)
  have HC := Lib.hid (HA.out (fun x => (S x ∨ x = w.heap.size) ∨ x = w1.heap.size) _ _ _ (w1.alloc (.cells #[.int .i64 k0, .slice p T0.gens.length cp, .slice q T0.taken.length cq, .slice r T0.list.length cr] 28)) HRT.out HSS.out)
  have HC2 := Lib.hid (show ∀ W, Below (w1.alloc (.cells #[.int .i64 k0, .slice p T0.gens.length cp, .slice q T0.taken.length cq, .slice r T0.list.length cr] 28)).heap.size (w1.alloc (.cells #[.int .i64 k0, .slice p T0.gens.length cp, .slice q T0.taken.length cq, .slice r T0.list.length cr] 28)) W → Box4 w1.heap.size W k0 (.slice p T0.gens.length cp) (.slice q T0.taken.length cq) (.slice r T0.list.length cr) ∧ (∀ o, W.frozen? ⟨w1.heap.size, o, none⟩ = false) from fun W hb => ⟨box4_of hb, fun o => by rw [hb.frozen (by simp)]; simp⟩)
  have HBW := Lib.hid hbw
  clear hbw
  generalize (w1.alloc (.cells #[.int .i64 k0, .slice p T0.gens.length cp, .slice q T0.taken.length cq, .slice r T0.list.length cr] 28)) = W1 at *
  refine HC.out.mono ?_
  rintro e w2 ⟨gs2, ts2, ls2, rfl, hrt2, hb2⟩
  obtain ⟨p2, cp2, q2, cq2, r2, cr2, rfl, rfl, rfl⟩ := hrt2.shapes
  obtain ⟨⟨b0, b1, b2, b3, bl⟩, bf⟩ := HC2.out w2 hb2
  obtain ⟨zz, zf⟩ := HZ.out w2 (bnext HB1.out (bnext HBW.out hb2))
  obtain ⟨_, z0⟩ := zz 0 (by omega)
  obtain ⟨_, z1⟩ := zz 1 (by omega)
  obtain ⟨_, z2⟩ := zz 2 (by omega)
  obtain ⟨_, z3⟩ := zz 3 (by omega)
  obtain ⟨_, z4⟩ := zz 4 (by omega)
  have HB2 := Lib.hid (bnext ((Below.refl w.heap.size w).alloc (Nat.le_refl _) _) (bnext HB1.out (bnext HBW.out hb2)))
  have HR2 := Lib.hid hrt2
  have hs2 : w1.heap.size < w2.heap.size := bl
  clear zz hrt2 hb2
  go_upto_region 3 with fail
  have hk4 := keeps4 w2 w1.heap.size (.int .i64 k0) (.slice p2 Aa.gens.length cp2) (.slice q2 Aa.taken.length cq2) (.slice r2 Aa.list.length cr2)
  have HX4 := Lib.hid (box4_set (u0 := k0) (u1 := .slice p2 Aa.gens.length cp2) (u2 := .slice q2 Aa.taken.length cq2) (u3 := .slice r2 Aa.list.length cr2) b0 b1 b2 b3 bl)
  have hne : ¬ w.heap.size = w1.heap.size := by omega
  have HZ4 := Lib.hid (show ∀ o, ((((w2.setCell ⟨w1.heap.size, 0, none⟩ (.int .i64 k0)).setCell ⟨w1.heap.size, 1, none⟩ (.slice p2 Aa.gens.length cp2)).setCell ⟨w1.heap.size, 2, none⟩ (.slice q2 Aa.taken.length cq2)).setCell ⟨w1.heap.size, 3, none⟩ (.slice r2 Aa.list.length cr2)).cell? ⟨w.heap.size, o, none⟩ = w2.cell? ⟨w.heap.size, o, none⟩ from fun o => hk4.cell (p := ⟨w.heap.size, o, none⟩) (by simp; omega) hne)
  have HF4 := Lib.hid (show ∀ o, ((((w2.setCell ⟨w1.heap.size, 0, none⟩ (.int .i64 k0)).setCell ⟨w1.heap.size, 1, none⟩ (.slice p2 Aa.gens.length cp2)).setCell ⟨w1.heap.size, 2, none⟩ (.slice q2 Aa.taken.length cq2)).setCell ⟨w1.heap.size, 3, none⟩ (.slice r2 Aa.list.length cr2)).frozen? ⟨w.heap.size, o, none⟩ = false from fun o => (World.frozen?_of_block (w := w2) (a := ⟨w.heap.size, o, none⟩) (hk4.block w.heap.size (by omega) hne)).trans (zf o))
  have HB4 := Lib.hid (below_keeps HB2.out hk4 (fun b e => by omega))
  have HR4 := Lib.hid ((HR2.out.keeps (hk4.mono fun b e => .inr e)).mono (T := fun x => S x ∨ x = w.heap.size) (fun b _ k => .inl k))
  have hs4 : w.heap.size < ((((w2.setCell ⟨w1.heap.size, 0, none⟩ (.int .i64 k0)).setCell ⟨w1.heap.size, 1, none⟩ (.slice p2 Aa.gens.length cp2)).setCell ⟨w1.heap.size, 2, none⟩ (.slice q2 Aa.taken.length cq2)).setCell ⟨w1.heap.size, 3, none⟩ (.slice r2 Aa.list.length cr2)).heap.size := Nat.lt_of_lt_of_le (by omega) hk4.size
  have y0 := (HZ4.out 0).trans z0
  have y1 := (HZ4.out 1).trans z1
  have y2 := (HZ4.out 2).trans z2
  have y3 := (HZ4.out 3).trans z3
  have y4 := (HZ4.out 4).trans z4
  have yf := HF4.out
  clear b0 b1 b2 b3 bl bf z0 z1 z2 z3 z4 zf hk4 hs2
  generalize ((((w2.setCell ⟨w1.heap.size, 0, none⟩ (.int .i64 k0)).setCell ⟨w1.heap.size, 1, none⟩ (.slice p2 Aa.gens.length cp2)).setCell ⟨w1.heap.size, 2, none⟩ (.slice q2 Aa.taken.length cq2)).setCell ⟨w1.heap.size, 3, none⟩ (.slice r2 Aa.list.length cr2)) = W4 at *
  obtain ⟨c0, c1, c2, c3, cl⟩ := HX4.out
  go_wp2_with fail
  refine bodyPost_ret (v := rtv k0 ⟨p2, Aa.gens.length, cp2, q2, Aa.taken.length, cq2, r2, Aa.list.length, cr2⟩ W4.heap.size 1 1) ?r1 rfl ?_
  case r1 => simp [results, Tryd.results5, go_sem, y0, y1, y2, y3, y4, hs4, World.cell?_alloc_some]
  have hk5 := keeps5 W4 w.heap.size (.int .i64 k0) (.slice p2 Aa.gens.length cp2) (.slice q2 Aa.taken.length cq2) (.slice r2 Aa.list.length cr2) (.slice (some ⟨W4.heap.size, 0, none⟩) 1 1)
  have hb5 := below_keeps HB4.out hk5 (fun b e => Nat.le_of_eq (Eq.symm e))
  have hr5 := (HR4.out.keeps (hk5.mono fun b e => .inr e)).mono (T := S) (fun b _ k => .inl k)
  have hsz5 : (((((W4.setCell ⟨w.heap.size, 0, none⟩ (.int .i64 k0)).setCell ⟨w.heap.size, 1, none⟩ (.slice p2 Aa.gens.length cp2)).setCell ⟨w.heap.size, 2, none⟩ (.slice q2 Aa.taken.length cq2)).setCell ⟨w.heap.size, 3, none⟩ (.slice r2 Aa.list.length cr2)).setCell ⟨w.heap.size, 4, none⟩ (.slice (some ⟨W4.heap.size, 0, none⟩) 1 1)).heap.size = W4.heap.size := by simp
  have hn := World.ownsRow_lit (base := 0) (e := NT) (size := 2) (((((W4.setCell ⟨w.heap.size, 0, none⟩ (.int .i64 k0)).setCell ⟨w.heap.size, 1, none⟩ (.slice p2 Aa.gens.length cp2)).setCell ⟨w.heap.size, 2, none⟩ (.slice q2 Aa.taken.length cq2)).setCell ⟨w.heap.size, 3, none⟩ (.slice r2 Aa.list.length cr2)).setCell ⟨w.heap.size, 4, none⟩ (.slice (some ⟨W4.heap.size, 0, none⟩) 1 1)) #[.int .i64 h0, .int .i64 0] 1 (Nat.zero_le _) (by unfold maxLen; omega) rfl
  rw [hsz5] at hn
  have hl1 : (nl A0 X0).length = 1 := by rw [nl0]; rfl
  refine ⟨⟨p2, Aa.gens.length, cp2, q2, Aa.taken.length, cq2, r2, Aa.list.length, cr2⟩, W4.heap.size, 1, by rw [hl1, HKE.out], ⟨?_, ?_, fun k => ?_, by rw [hl1]; exact Nat.one_pos, by rw [hl1]; omega⟩, below_alloc hb5 _⟩
  · rw [zA0, ← HAE.out]
    exact hr5.below ((Below.refl _ _).alloc (Nat.le_refl _) _)
  · unfold Nds
    rw [hl1, nl0, ← HHE.out]
    exact hn
  · have := HSB.out _ k
    omega
end Go.Proofs.YtlcdbblbepndoaaDoor
