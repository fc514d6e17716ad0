/- The document's own Remove: what its loop carries; no condition but those that each row names. -/
import Derived.Test.YtlcdbblbepndoaaDoorVRefI
namespace Go.Proofs.YtlcdbblbepndoaaDoor
open Go.RowKit Tr
/-- What the loop of Remove carries. -/
structure RemL (S : Nat → Prop) (R B2 : Nat) (w3 W : World) (k0 : Int) (Az : Tab) (t : TS) (gv : Value) (Q : List Int) : Prop where
  b : Box4 B2 W k0 (.slice t.p t.n t.c) (.slice t.q t.m t.d) (.slice t.r t.l t.e)
  fz : ∀ j, W.frozen? ⟨B2, j, none⟩ = false
  rt : RT (fun x => ((S x ∨ x = R) ∨ x = B2) ∨ gv.ownBlock = some x) W Az (.slice t.p t.n t.c) (.slice t.q t.m t.d) (.slice t.r t.l t.e)
  o : OwnH w3.heap.size W gv Q
  k : Keeps (fun b => b = B2) w3 W
  lt : ∀ x, (S x ∨ x = R) ∨ x = B2 → x < w3.heap.size
theorem RemL.push {S : Nat → Prop} {R B2 : Nat} {w3 wr w5 : World} {k0 : Int} {Az : Tab} {t : TS} {gv gv' : Value} {Q : List Int} {o : Obj} {y : Int} (h : RemL S R B2 w3 wr k0 Az t gv Q)
    (ho : w5.ownsRow w3.heap.size 33 1 gv' (Q.length + 1) (ints Q ++ [.int .i64 y])) (hg : (wr.alloc o).grownBy w5 gv.ownBlock)
    (hat : gv'.ownBlock = gv.ownBlock ∨ gv'.ownBlock = some (wr.heap.size + 1)) : RemL S R B2 w3 w5 k0 Az t gv' (Q ++ [y]) := by
  have hk5 : Keeps (fun b => gv.ownBlock = some b) wr w5 := ((Keeps.refl _ wr).alloc o).grown hg (fun k e => .inl e)
  have hb5 : Below w3.heap.size wr w5 := hk5.below h.k.size (fun b e => (World.ownsRow.lt h.o b e).1)
  have h2 := h.lt B2 (.inr rfl)
  refine ⟨⟨(hb5.cell h2).trans h.b.b0, (hb5.cell h2).trans h.b.b1, (hb5.cell h2).trans h.b.b2, (hb5.cell h2).trans h.b.b3, Nat.lt_of_lt_of_le h.b.lt hb5.size⟩, fun j => (hb5.frozen h2).trans (h.fz j), ?_, ?_, ?_, h.lt⟩
  · have hm := h.rt.mono (T := fun x => (((S x ∨ x = R) ∨ x = B2) ∨ gv.ownBlock = some x) ∨ gv'.ownBlock = some x) (fun b hb k => by
      rcases k with k | k
      · exact k
      · rcases hat with e | e
        · exact .inr (e ▸ k)
        · rw [e] at k
          injection k with k
          omega)
    exact (hm.keeps (hk5.mono fun b e => .inl (.inr e))).mono fun b _ k => by
      rcases k with k | k
      · exact .inl (.inl k)
      · exact .inr k
  · unfold OwnH
    rw [← ints_snoc, List.length_append]
    exact ho
  · exact ⟨hb5.os.trans h.k.os, hb5.tape.trans h.k.tape, hb5.output.trans h.k.output, Nat.le_trans h.k.size hb5.size, fun x hx hn => (hb5.block x hx).trans (h.k.block x hx hn)⟩
theorem keeps4 (W : World) (R : Nat) (u0 u1 u2 u3 : Value) : Keeps (fun b => b = R) W ((((W.setCell ⟨R, 0, none⟩ u0).setCell ⟨R, 1, none⟩ u1).setCell ⟨R, 2, none⟩ u2).setCell ⟨R, 3, none⟩ u3) :=
  ((((Keeps.refl (fun b => b = R) W).setCell ⟨R, 0, none⟩ u0 rfl).setCell ⟨R, 1, none⟩ u1 rfl).setCell ⟨R, 2, none⟩ u2 rfl).setCell ⟨R, 3, none⟩ u3 rfl
theorem RemL.under {S : Nat → Prop} {R B2 : Nat} {w3 w5 w6 : World} {k0 : Int} {Az : Tab} {t : TS} {gv : Value} {Q : List Int} (h : RemL S R B2 w3 w5 k0 Az t gv Q) (hb : Below w5.heap.size w5 w6) : RemL S R B2 w3 w6 k0 Az t gv Q := by
  have h2 := h.b.lt
  exact ⟨⟨(hb.cell h2).trans h.b.b0, (hb.cell h2).trans h.b.b1, (hb.cell h2).trans h.b.b2, (hb.cell h2).trans h.b.b3, Nat.lt_of_lt_of_le h.b.lt hb.size⟩, fun j => (hb.frozen h2).trans (h.fz j), h.rt.below hb, h.o.below hb, h.k.trans (Keeps.of_below hb), h.lt⟩
theorem RemL.drop {S : Nat → Prop} {R B2 : Nat} {w3 w6 : World} {k0 : Int} {Az Az2 : Tab} {t t2 : TS} {gv : Value} {Q : List Int} (h : RemL S R B2 w3 w6 k0 Az t gv Q)
    (hrt : RT (fun x => ((S x ∨ x = R) ∨ x = B2) ∨ gv.ownBlock = some x) w6 Az2 (.slice t2.p t2.n t2.c) (.slice t2.q t2.m t2.d) (.slice t2.r t2.l t2.e)) :
    RemL S R B2 w3 ((((w6.setCell ⟨B2, 0, none⟩ (.int .i64 k0)).setCell ⟨B2, 1, none⟩ (.slice t2.p t2.n t2.c)).setCell ⟨B2, 2, none⟩ (.slice t2.q t2.m t2.d)).setCell ⟨B2, 3, none⟩ (.slice t2.r t2.l t2.e)) k0 Az2 t2 gv Q := by
  have hk := keeps4 w6 B2 (.int .i64 k0) (.slice t2.p t2.n t2.c) (.slice t2.q t2.m t2.d) (.slice t2.r t2.l t2.e)
  have h2 := h.lt B2 (.inr rfl)
  obtain ⟨b0, b1, b2, b3, bl⟩ := h.b
  have f := h.fz
  refine ⟨⟨?_, ?_, ?_, ?_, Nat.lt_of_lt_of_le bl hk.size⟩, fun j => ?_, hrt.keeps (hk.mono fun b e => .inl (.inr e)), h.o.keeps hk (fun x e => by omega), h.k.trans hk, h.lt⟩
  · exact (World.cell?_setCell_other _ _ _ _ (by simp)).trans ((World.cell?_setCell_other _ _ _ _ (by simp)).trans ((World.cell?_setCell_other _ _ _ _ (by simp)).trans (World.cell?_setCell_same _ _ _ b0)))
  · exact (World.cell?_setCell_other _ _ _ _ (by simp)).trans ((World.cell?_setCell_other _ _ _ _ (by simp)).trans (World.cell?_setCell_same _ _ _ ((World.cell?_setCell_other _ _ _ _ (by simp)).trans b1)))
  · exact (World.cell?_setCell_other _ _ _ _ (by simp)).trans (World.cell?_setCell_same _ _ _ ((World.cell?_setCell_other _ _ _ _ (by simp)).trans ((World.cell?_setCell_other _ _ _ _ (by simp)).trans b2)))
  · exact World.cell?_setCell_same _ _ _ ((World.cell?_setCell_other _ _ _ _ (by simp)).trans ((World.cell?_setCell_other _ _ _ _ (by simp)).trans ((World.cell?_setCell_other _ _ _ _ (by simp)).trans b3)))
  · rw [World.frozen?_setCell, World.frozen?_setCell, World.frozen?_setCell, World.frozen?_setCell]; exact f j
theorem Ten.keeps {S : Nat → Prop} {w W W' : World} {k0 : Int} {s : TS} {g cap n : Nat} (h : Ten w W k0 s g cap n) (hk : Keeps S W W') (h0 : ¬ S w.heap.size) (h1 : ¬ S (w.heap.size + 1)) : Ten w W' k0 s g cap n := by
  have l := h.lt
  have hc := fun o => hk.cell (p := ⟨w.heap.size, o, none⟩) (by simp; omega) h0
  have hz := fun o => hk.cell (p := ⟨w.heap.size + 1, o, none⟩) (by simp; omega) h1
  have hf := fun o => World.frozen?_of_block (w := W) (w' := W') (a := ⟨w.heap.size + 1, o, none⟩) (hk.block _ l h1)
  exact ⟨(hc 0).trans h.d0, (hc 1).trans h.d1, (hc 2).trans h.d2, (hc 3).trans h.d3, (hc 4).trans h.d4, (hz 0).trans h.z0, (hz 1).trans h.z1, (hz 2).trans h.z2, (hz 3).trans h.z3, (hz 4).trans h.z4, fun j => (hf j).trans (h.zf j), Nat.lt_of_lt_of_le l hk.size⟩
/-- What lies in the part that goes. -/
theorem rem_at {A : Tab} {X : Sh} (hR : Rel A X) {p j : Nat} (hj : (X.pt 0)[j]? = some p) (i : Nat) (h1 : j ≤ i) (h2 : i < j + (X.pt p).length) :
    ∃ h : i < (nl A X).length, ∃ h2 : i - j < (X.pt p).length, (nl A X)[i].1 = A.hd (X.pt p)[i - j] := by
  have hit := (pt_all hR.tree).1 (List.mem_of_getElem? hj)
  obtain ⟨pre, post, e, e1, _⟩ := place_end hR.tree hit hj
  have hlt : i - j < (X.pt p).length := by omega
  have : (X.pt 0)[i]? = some (X.pt p)[i - j] := by
    rw [e, List.append_assoc, List.getElem?_append_right (by omega), List.getElem?_append_left (by omega), ← e1]
    exact List.getElem?_eq_getElem hlt
  obtain ⟨h3, h4⟩ := nl_at (A := A) this
  exact ⟨h3, hlt, by rw [h4]⟩
/-- The nodes that stay. -/
theorem rem_nl {A : Tab} {X : Sh} (hR : Rel A X) {p j : Nat} (hp : X.t p = true) (h0 : p ≠ 0) (hj : (X.pt 0)[j]? = some p) :
    nl (dropAll A (X.pt p)) (X.rem p) = (nl A X).take j ++ (nl A X).drop (j + (X.pt p).length) := by
  have hD := dropped_take hR.good (pt_nodup hR.tree p hp) (fun x hx => by
    have hx' := (pt_back hR.tree p hp x hx).1
    exact ⟨hR.lt hx', by rw [hR.t]; exact hx'⟩) _ (Nat.le_refl _)
  rw [List.take_length] at hD
  unfold nl
  rw [← List.map_take, ← List.map_drop, ← List.map_append, ← rem_all hR.tree hp h0 hj]
  refine List.map_congr_left fun x hx => ?_
  rw [rem_filter hR.tree hp h0] at hx
  have := (List.mem_filter.1 hx).2
  rw [hD.hd (by simpa using this)]
  rfl
/-- What Remove answers where it removes. -/
def RRem (S : Nat → Prop) (w : World) (A' : Tab) (X' : Sh) (l : List Int) (e : Ending) (w' : World) : Prop := ∃ v, OwnH w.heap.size w' v l ∧ RPost S w A' X' v 0 e w'
end Go.Proofs.YtlcdbblbepndoaaDoor
