/- The document's own Add of a table, where a slot is free; no condition but those that each row names. -/
import Derived.Test.YtlcdbblbepndoaaDoorVRDrop
import Derived.StillTailTactics
import Derived.Deep.DeepCutAuto
import Derived.Deep.RegionHeld3
namespace Go.Proofs.YtlcdbblbepndoaaDoor
open Go.RowKit

theorem keeps_set4 (W : World) (R : Nat) (u0 u1 u2 u3 : Value) : Keeps (fun b => b = R) W (((((W.setCell ⟨R, 0, none⟩ u0).setCell ⟨R, 1, none⟩ u1).setCell ⟨R, 2, none⟩ u2).setCell ⟨R, 3, none⟩ u3).drew) :=
  ⟨rfl, rfl, rfl, by simp [World.setCell], fun b _ hn => by
    have h : ∀ (V : World) o u, (V.setCell ⟨R, o, none⟩ u).heap[b]? = V.heap[b]? := fun V o u => Below.heap_setCell V ⟨R, o, none⟩ u b hn
    show (World.setCell _ _ _).heap[b]? = _
    rw [h, h, h, h]⟩
theorem RT.mono {S T : Nat → Prop} {w : World} {A : Tab} {gs ts ls : Value} (h : RT S w A gs ts ls) (hS : ∀ b, b < w.heap.size → T b → S b) : RT T w A gs ts ls := ⟨h.g.mono hS, h.t.mono hS, h.l.mono hS⟩
set_option maxHeartbeats 4000000 in
set_option maxRecDepth 100000 in
theorem radd_some (S : Nat → Prop) (A : Tab) (hA : A.Good) (v : Int) (i : Nat) (hf : A.free = some i) (gs ts ls : Value) (w : World) (h : RT S w A gs ts ls) (hS : ∀ b, S b → b < w.heap.size) :
    Calls Tryd.prog 20 #[rv A.kind gs ts ls, .int .i64 v] w fun e w' => ∃ gs ts ls, e = .returned (.tuple #[rv A.kind gs ts ls, .int .i64 (A.hd i), .int .i64 0]) ∧ RT S w' (A.addAt i v) gs ts ls ∧ Below w.heap.size w w' := by
  have hb0 : ∀ o o', Below w.heap.size w ((w.alloc o).alloc o') := fun o o' => ((Below.refl w.heap.size w).alloc (Nat.le_refl _) o).alloc (by simp) o'
  have HF := Lib.hid (fun w h => rfree_any S A hA gs ts ls w h)
  have HC := Lib.hid (fun w h => rcopy_any S A hA gs ts ls w h)
  have HG := Lib.hid (add_good hA hf v)
  obtain ⟨hi', hfr, hg3⟩ := fr_iff hf
  have hll := hA.ll
  have hlt := hA.lt
  have n4 := hA.n4
  have gg := hA.g1 i hi'
  rw [hf] at HF
  have hp : okP A.kind i (A.g i) := ⟨hA.k1, hA.k3, by omega, by omega, gg.1, hg3⟩
  have HM := Lib.hid (fun w => rmk_ok A.kind i (A.g i) w hp)
  have HR := Lib.hid (fun o o' => h.below (hb0 o o'))
  obtain ⟨p, cp, q, cq, r, cr, e1, rfl, rfl⟩ := h.shapes
  obtain ⟨hg, _, _⟩ := h
  obtain ⟨p', cp', e2, _, hcg⟩ := hg
  obtain ⟨b1, o1, rfl, _, hcell⟩ := hcg i _ (ints_at hi')
  rw [ints_len] at e2
  subst e2
  have hblk := cell_lt hcell
  simp only at hblk
  have hil : i < A.list.length := by omega
  have hit : i < A.taken.length := by omega
  obtain ⟨gv, hgv⟩ : ∃ gv, gv = A.g i := ⟨_, rfl⟩
  have hh : A.hd i = mkH A.kind i gv := by rw [hgv]; rfl
  rw [hh]
  rw [show A.gens.getD i 0 = gv from hgv.symm] at hcell
  rw [← hgv] at HM gg
  obtain ⟨gg0, gg1⟩ := gg
  clear hf hcg hb0 hll hlt hgv hh hp hfr hg3 e1
  have HS := Lib.hid hS
  clear hS
  generalize mkH A.kind i gv = y at *
  go_enter Tryd.func20, Tryd.ntmps20
  go_wp2_with fail
  refine (HF.out _ (HR.out _ _)).mono ?_
  rintro e w1 ⟨rfl, hb1⟩
  obtain ⟨hc1, hf1⟩ := bcell hb1
  have hval : optV (some i) = (i : Int) := rfl
  rw [hval]
  clear hval
  have y1 : w.heap.size + 1 < w1.heap.size := by have := hb1.size; simp at this; omega
  have y0 : w.heap.size < w1.heap.size := by omega
  have hbw1 : Below w.heap.size w w1 := (((Below.refl w.heap.size w).alloc (Nat.le_refl _) _).alloc (by simp) _).trans (hb1.mono (by simp; omega))
  have HR1 := Lib.hid ((HR.out _ _).below hb1)
  go_wp2_with fail
  refine (HC.out _ HR1.out).mono ?_
  rintro e w2 ⟨g1, d1, g2, d2, g3, d3, rfl, ho, hb2⟩
  obtain ⟨hc2, hf2⟩ := bcell hb2
  have HO := Lib.hid ho
  obtain ⟨l1, l2⟩ := ho.l.lt g3 (by simp [Value.ownBlock])
  obtain ⟨l3, l4⟩ := ho.t.lt g2 (by simp [Value.ownBlock])
  obtain ⟨l5, l6⟩ := ho.g.lt g1 (by simp [Value.ownBlock])
  have n12 := ho.n12
  have n13 := ho.n13
  have n23 := ho.n23
  have q1 := ho.l.cellAt i (by omega)
  rw [ints_at hil] at q1
  have q2 := ho.l.frozenAt i
  have q3 := ho.t.cellAt i (by omega)
  rw [bools_at hit] at q3
  have q4 := ho.t.frozenAt i
  have y2 : w.heap.size + 1 < w2.heap.size := Nat.lt_of_lt_of_le y1 hb2.size
  have y3 : w.heap.size < w2.heap.size := by omega
  have hbw2 : Below w.heap.size w w2 := bnext hbw1 hb2
  have hcell2 : w2.cell? ⟨b1, o1 + i, none⟩ = some (.int .i64 gv) := (hbw2.cell (p := ⟨b1, o1 + i, none⟩) hblk).trans hcell
  have z0 : (0 : Int) ≤ (i : Int) := by omega
  have z1 : (i : Int) < (A.list.length : Int) := by omega
  have z2 : (i : Int) < (A.gens.length : Int) := by omega
  have z3 : (i : Int) < (A.taken.length : Int) := by omega
  have n32 : ¬ g3 = g2 := fun e => n23 e.symm
  have m1 : ¬ b1 = g2 := by omega
  have m2 : ¬ b1 = g3 := by omega
  have m3 : ¬ w.heap.size = g2 := by omega
  have m4 : ¬ w.heap.size = g3 := by omega
  have m5 : b1 < w2.heap.size := by omega
  have m6 : ¬ w.heap.size + 1 = g2 := by omega
  have m7 : ¬ w.heap.size + 1 = g3 := by omega
  have t0 : w2.cell? ⟨w.heap.size + 1, 0, none⟩ = some (.int .i64 0) := by rw [hc2 _ _ y1, hc1 _ _ (by simp)]; simp
  have t1 : w2.cell? ⟨w.heap.size + 1, 1, none⟩ = some (.slice none 0 0) := by rw [hc2 _ _ y1, hc1 _ _ (by simp)]; simp
  have t2 : w2.cell? ⟨w.heap.size + 1, 2, none⟩ = some (.slice none 0 0) := by rw [hc2 _ _ y1, hc1 _ _ (by simp)]; simp
  have t3 : w2.cell? ⟨w.heap.size + 1, 3, none⟩ = some (.slice none 0 0) := by rw [hc2 _ _ y1, hc1 _ _ (by simp)]; simp
  have s0 : w2.cell? ⟨w.heap.size, 0, none⟩ = some (.int .i64 A.kind) := by rw [hc2 _ _ y0, hc1 _ _ (by simp; omega)]; simp
  have s1 : w2.cell? ⟨w.heap.size, 1, none⟩ = some (.slice (some ⟨b1, o1, none⟩) A.gens.length cp') := by rw [hc2 _ _ y0, hc1 _ _ (by simp; omega)]; simp
  have f0 : ∀ j, w2.frozen? ⟨w.heap.size + 1, j, none⟩ = false := fun j => by rw [hf2 _ _ y1, hf1 _ _ (by simp)]; simp
  clear ho
  go_upto_region 6 with fail
  go_cut [8] (fun s8 wx => s8 = .pointer (some ⟨w2.heap.size, 0, none⟩) ∧
    wx.cell? ⟨w2.heap.size, 0, none⟩ = some (.int .i64 A.kind) ∧ wx.cell? ⟨w2.heap.size, 1, none⟩ = some (.slice (some ⟨g1, 0, none⟩) A.gens.length d1) ∧ wx.cell? ⟨w2.heap.size, 2, none⟩ = some (.slice (some ⟨g2, 0, none⟩) A.taken.length d2) ∧
    wx.cell? ⟨w2.heap.size, 3, none⟩ = some (.slice (some ⟨g3, 0, none⟩) A.list.length d3) ∧ wx.cell? ⟨w.heap.size, 0, none⟩ = some (.int .i64 A.kind) ∧ wx.cell? ⟨w.heap.size, 1, none⟩ = some (.slice (some ⟨b1, o1, none⟩) A.gens.length cp') ∧
    wx.cell? ⟨b1, o1 + i, none⟩ = some (.int .i64 gv) ∧
    wx.cell? ⟨w.heap.size + 1, 0, none⟩ = some (.int .i64 0) ∧ wx.cell? ⟨w.heap.size + 1, 1, none⟩ = some (.slice none 0 0) ∧ wx.cell? ⟨w.heap.size + 1, 2, none⟩ = some (.slice none 0 0) ∧ wx.cell? ⟨w.heap.size + 1, 3, none⟩ = some (.slice none 0 0) ∧
    (∀ j, wx.frozen? ⟨w.heap.size + 1, j, none⟩ = false) ∧ w.heap.size + 1 < wx.heap.size ∧ Hid (Own3 w1.heap.size wx (A.addAt i v) g1 d1 g2 d2 g3 d3) ∧ Below w.heap.size w wx)
  case first =>
    have hO := HO.out
    have a1 := own_other hO.g ⟨g2, i, none⟩ (.bool true) (by simp [Value.ownBlock]; exact n12)
    have a2 := own_other a1 ⟨g3, i, none⟩ (.int .i64 v) (by simp [Value.ownBlock]; exact n13)
    have b1' := (hO.t.stored i (.bool true)).1
    rw [bools_set] at b1'
    have b2 := own_other b1' ⟨g3, i, none⟩ (.int .i64 v) (by simp [Value.ownBlock]; exact n23)
    have c1 := own_other hO.l ⟨g2, i, none⟩ (.bool true) (by simp [Value.ownBlock]; exact n32)
    have c2 := (c1.stored i (.int .i64 v)).1
    rw [ints_set] at c2
    have HA1 := Lib.hid a2
    have HB1 := Lib.hid b2
    have HC1 := Lib.hid c2
    clear hO a1 a2 b1' b2 c1 c2
    have hsz : ((w2.setCell ⟨g2, i, none⟩ (.bool true)).setCell ⟨g3, i, none⟩ (.int .i64 v)).heap.size = w2.heap.size := by simp
    have hnew : ∀ (o : Array Value) j u, o[j]? = some u → (((w2.setCell ⟨g2, i, none⟩ (.bool true)).setCell ⟨g3, i, none⟩ (.int .i64 v)).alloc (.cells o 28)).cell? ⟨w2.heap.size, j, none⟩ = some u := fun o j u hu => by
      rw [World.cell?_alloc_at _ _ _ _ hsz.symm]; exact hu
    have hold : ∀ b o u ob, b < w2.heap.size → ¬ b = g2 → ¬ b = g3 → w2.cell? ⟨b, o, none⟩ = some u → (((w2.setCell ⟨g2, i, none⟩ (.bool true)).setCell ⟨g3, i, none⟩ (.int .i64 v)).alloc ob).cell? ⟨b, o, none⟩ = some u := fun b o u ob h1 h2 h3 h4 => by
      exact (World.cell?_alloc_lt _ _ ⟨b, o, none⟩ (by rw [hsz]; exact h1)).trans ((World.cell?_setCell_far _ _ _ _ (fun e => h3 e.symm)).trans ((World.cell?_setCell_far _ _ _ _ (fun e => h2 e.symm)).trans h4))
    have HN := Lib.hid hnew
    have HL := Lib.hid hold
    have F0 := Lib.hid f0
    have F2 := Lib.hid hf2
    clear hsz hnew hold hf1 hc1
    go_wp2_with fail
    go_meet
    refine ⟨rfl, HN.out _ _ _ rfl, HN.out _ _ _ rfl, HN.out _ _ _ rfl, HN.out _ _ _ rfl, HL.out _ _ _ _ y3 m3 m4 s0, HL.out _ _ _ _ y3 m3 m4 s1, HL.out _ _ _ _ m5 m1 m2 hcell2, HL.out _ _ _ _ y2 m6 m7 t0, HL.out _ _ _ _ y2 m6 m7 t1, HL.out _ _ _ _ y2 m6 m7 t2, HL.out _ _ _ _ y2 m6 m7 t3, ?_, by simp; omega, ?_, ?_⟩
    · intro j
      rw [World.frozen?_alloc_old _ _ _ (by simp; omega), World.frozen?_setCell, World.frozen?_setCell]
      exact F0.out j
    · refine Lib.hid ⟨?_, ?_, ?_, n12, n13, n23⟩
      · exact HA1.out.alloc _
      · have := HB1.out.alloc (.cells #[.int .i64 A.kind, .slice (some ⟨g1, 0, none⟩) A.gens.length d1, .slice (some ⟨g2, 0, none⟩) A.taken.length d2, .slice (some ⟨g3, 0, none⟩) A.list.length d3] 28)
        simpa [Tab.addAt] using this
      · have := HC1.out.alloc (.cells #[.int .i64 A.kind, .slice (some ⟨g1, 0, none⟩) A.gens.length d1, .slice (some ⟨g2, 0, none⟩) A.taken.length d2, .slice (some ⟨g3, 0, none⟩) A.list.length d3] 28)
        simpa [Tab.addAt] using this
    · exact ((hbw2.setCell (p := ⟨g2, i, none⟩) (by simp; omega) _).setCell (p := ⟨g3, i, none⟩) (by simp; omega) _).alloc (by simp; omega) _
  case rest =>
    obtain ⟨rfl, k0, k1, k2, k3, k4, k5, k6, kt0, kt1, kt2, kt3, kf, ks, KO, kb⟩ := hcut
    clear hc1 hf1 hc2 hf2 hb1 hb2 HO l1 l2 l3 l4 l5 l6 q1 q2 q3 q4 hbw1 hbw2 hcell2 HR1 HR HF HC t0 t1 t2 t3 s0 s1 f0
    go_wp2_with fail
    go_still_tail 10, (by kernel_rfl)
    still_call ((HM.out _).mono fun _ _ h => ⟨h.1, h.2.symm⟩)
    refine wpStill_nil ?_
    change wpList _ _ _ _ _ wc.drew
    go_wp2_with fail
    have hO := KO.out
    have f1 := (hO.g.lt g1 (by simp [Value.ownBlock])).1
    have f2 := (hO.t.lt g2 (by simp [Value.ownBlock])).1
    have f3 := (hO.l.lt g3 (by simp [Value.ownBlock])).1
    have ng : (A.addAt i v).gens.length = A.gens.length := rfl
    have nt : (A.addAt i v).taken.length = A.taken.length := by simp [Tab.addAt]
    have nl : (A.addAt i v).list.length = A.list.length := by simp [Tab.addAt]
    have hrt : RT (fun b => S b ∨ b = w.heap.size + 1) wc (A.addAt i v) (.slice (some ⟨g1, 0, none⟩) A.gens.length d1) (.slice (some ⟨g2, 0, none⟩) A.taken.length d2) (.slice (some ⟨g3, 0, none⟩) A.list.length d3) := by
      have := RT.of_own3 (S := fun b => S b ∨ b = w.heap.size + 1) hO HG.out (fun b hb => by
        rcases hb with hb | rfl
        · have := HS.out b hb; omega
        · omega)
      rw [ng, nt, nl] at this
      exact this
    have hk4 := keeps_set4 wc (w.heap.size + 1)
    refine bodyPost_ret (v := .tuple #[rv A.kind (.slice (some ⟨g1, 0, none⟩) A.gens.length d1) (.slice (some ⟨g2, 0, none⟩) A.taken.length d2) (.slice (some ⟨g3, 0, none⟩) A.list.length d3), .int .i64 y, .int .i64 0]) ?r1 rfl ?_
    case r1 => simp [results, Tryd.results20, go_sem, kt0, kt1, kt2, kt3]
    exact ⟨_, _, _, rfl, (hrt.keeps ((hk4 _ _ _ _).mono fun b hb => .inr hb)).mono fun b _ hb => .inl hb, below_keeps kb (hk4 _ _ _ _) (fun b hb => by omega)⟩
end Go.Proofs.YtlcdbblbepndoaaDoor
