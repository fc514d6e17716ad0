/- The blocks that the document's Run works on, known whole; what each store makes of them; nothing of the program is walked; no condition but those that each row names. -/
import Derived.Test.YtpfhebfkhailfaaDoorQRefC
namespace Go.Proofs.YtpfhebfkhailfaaDoor
open Go.RowKit Tsk

theorem arrT1 (u0 u1 u2 u3 u4 u5 u6 u7 v : Value) : #[u0, u1, u2, u3, u4, u5, u6, u7].setIfInBounds 1 v = #[u0, v, u2, u3, u4, u5, u6, u7] := by rw [← Array.toList_inj, Array.toList_setIfInBounds]; rfl
theorem arrT2 (u0 u1 u2 u3 u4 u5 u6 u7 v : Value) : #[u0, u1, u2, u3, u4, u5, u6, u7].setIfInBounds 2 v = #[u0, u1, v, u3, u4, u5, u6, u7] := by rw [← Array.toList_inj, Array.toList_setIfInBounds]; rfl
theorem arrT3 (u0 u1 u2 u3 u4 u5 u6 u7 v : Value) : #[u0, u1, u2, u3, u4, u5, u6, u7].setIfInBounds 3 v = #[u0, u1, u2, v, u4, u5, u6, u7] := by rw [← Array.toList_inj, Array.toList_setIfInBounds]; rfl
theorem arrT5 (u0 u1 u2 u3 u4 u5 u6 u7 v : Value) : #[u0, u1, u2, u3, u4, u5, u6, u7].setIfInBounds 5 v = #[u0, u1, u2, u3, u4, v, u6, u7] := by rw [← Array.toList_inj, Array.toList_setIfInBounds]; rfl
theorem arrT6 (u0 u1 u2 u3 u4 u5 u6 u7 v : Value) : #[u0, u1, u2, u3, u4, u5, u6, u7].setIfInBounds 6 v = #[u0, u1, u2, u3, u4, u5, v, u7] := by rw [← Array.toList_inj, Array.toList_setIfInBounds]; rfl
theorem arrT7 (u0 u1 u2 u3 u4 u5 u6 u7 v : Value) : #[u0, u1, u2, u3, u4, u5, u6, u7].setIfInBounds 7 v = #[u0, u1, u2, u3, u4, u5, u6, v] := by rw [← Array.toList_inj, Array.toList_setIfInBounds]; rfl
theorem arrJ0 (u0 u1 u2 u3 v : Value) : #[u0, u1, u2, u3].setIfInBounds 0 v = #[v, u1, u2, u3] := by rw [← Array.toList_inj, Array.toList_setIfInBounds]; rfl
theorem arrJ1 (u0 u1 u2 u3 v : Value) : #[u0, u1, u2, u3].setIfInBounds 1 v = #[u0, v, u2, u3] := by rw [← Array.toList_inj, Array.toList_setIfInBounds]; rfl
section
variable {W : World} {g : Nat} {p : Int} {s : Value} {k : Ac}
theorem HasT.set1 (h : HasT W g p s k) (u : Value) : HasT (W.setCell ⟨g, 1, none⟩ u) g p u k := by have a := has_set h 1 u; rwa [arrT1] at a
theorem HasT.set2 (h : HasT W g p s k) (x : Int) : HasT (W.setCell ⟨g, 2, none⟩ (.int .i64 x)) g p s ⟨x, k.o, k.n, k.d, k.c, k.t⟩ := by have a := has_set h 2 (.int .i64 x); rwa [arrT2] at a
theorem HasT.set3 (h : HasT W g p s k) (x : Int) : HasT (W.setCell ⟨g, 3, none⟩ (.int .i64 x)) g p s ⟨k.g, x, k.n, k.d, k.c, k.t⟩ := by have a := has_set h 3 (.int .i64 x); rwa [arrT3] at a
theorem HasT.set5 (h : HasT W g p s k) (x : Int) : HasT (W.setCell ⟨g, 5, none⟩ (.int .i64 x)) g p s ⟨k.g, k.o, k.n, x, k.c, k.t⟩ := by have a := has_set h 5 (.int .i64 x); rwa [arrT5] at a
theorem HasT.set6 (h : HasT W g p s k) (x : Int) : HasT (W.setCell ⟨g, 6, none⟩ (.int .i64 x)) g p s ⟨k.g, k.o, k.n, k.d, x, k.t⟩ := by have a := has_set h 6 (.int .i64 x); rwa [arrT6] at a
theorem HasT.set7 (h : HasT W g p s k) (x : Int) : HasT (W.setCell ⟨g, 7, none⟩ (.int .i64 x)) g p s ⟨k.g, k.o, k.n, k.d, k.c, x⟩ := by have a := has_set h 7 (.int .i64 x); rwa [arrT7] at a
theorem HasT.other (h : HasT W g p s k) (q : Addr) (u : Value) (hq : q.block ≠ g) : HasT (W.setCell q u) g p s k := has_other h q u hq
variable {j : Jb}
theorem HasJ.set0 (h : HasJ W g j) (x : Int) : HasJ (W.setCell ⟨g, 0, none⟩ (.int .i64 x)) g ⟨x, j.c, j.a, j.d⟩ := by have a := has_set h 0 (.int .i64 x); rwa [arrJ0] at a
theorem HasJ.set1 (h : HasJ W g j) (x : Int) : HasJ (W.setCell ⟨g, 1, none⟩ (.int .i64 x)) g ⟨j.l, x, j.a, j.d⟩ := by have a := has_set h 1 (.int .i64 x); rwa [arrJ1] at a
theorem HasJ.other (h : HasJ W g j) (q : Addr) (u : Value) (hq : q.block ≠ g) : HasJ (W.setCell q u) g j := has_other h q u hq
end
/-- The task's block, the answer's, the job's, the row of jobs. -/
structure St (w : World) (p : Int) (sv : Value) (k : Ac) (J : Nat) (j : Jb) (g n cap : Nat) (f : Nat → Jb) (wx : World) : Prop where
  t : HasT wx w.heap.size p sv k
  r : HasT wx (w.heap.size + 1) 0 (.slice none 0 0) kZ
  j : HasJ wx J j
  Jl : w.heap.size + 2 ≤ J
  Jg : J ≠ g
  row : JobsO (w.heap.size + 2) wx (.slice (some ⟨g, 0, none⟩) n cap) n f
  gl : w.heap.size + 2 ≤ g
  below : Below w.heap.size w wx
section
variable {w wx : World} {p : Int} {sv : Value} {k : Ac} {J : Nat} {j : Jb} {g n cap : Nat} {f : Nat → Jb}
theorem own_ne {B e z m : Nat} {W : World} {G c : Nat} {xs : List Value} (h : W.ownsRow B e z (.slice (some ⟨G, 0, none⟩) m c) m xs) (q : Addr) (u : Value) (hq : q.block ≠ G) : (W.setCell q u).ownsRow B e z (.slice (some ⟨G, 0, none⟩) m c) m xs :=
  World.ownsRow.kept (row := some q.block) h (grown_set W q u) (.inr fun e => hq (by simp [Value.ownBlock] at e; omega))
theorem St.new {c4 : Nat} (h1 : HasT wx w.heap.size p (.slice (some ⟨g, 0, none⟩) n c4) k) (h2 : HasT wx (w.heap.size + 1) 0 (.slice none 0 0) kZ) (h3 : JobsO (w.heap.size + 2) wx (.slice (some ⟨g, 0, none⟩) n c4) n f) (h4 : Below w.heap.size w wx) (jb : Jb) :
    St w p (.slice (some ⟨g, 0, none⟩) n c4) k wx.heap.size jb g n c4 f (wx.alloc (.cells #[.int .i64 jb.l, .int .i64 jb.c, .int .i64 jb.a, .int .i64 jb.d] JT)) := by
  have hb : Below wx.heap.size wx (wx.alloc (.cells #[.int .i64 jb.l, .int .i64 jb.c, .int .i64 jb.a, .int .i64 jb.d] JT)) := (Below.refl _ _).alloc (Nat.le_refl _) _
  have hl := World.ownsRow.lt h3 g rfl
  exact ⟨h1.below hb, h2.below hb, has_new _ _ _ rfl, by have := has_lt h2; omega, by omega, own_under h3 hb, hl.1, bnext h4 hb⟩
/-- What Run has made of the task and its first job, ahead of the switch. -/
theorem St.ran {c4 : Nat} (h1 : HasT wx w.heap.size p (.slice (some ⟨g, 0, none⟩) n c4) k) (h2 : HasT wx (w.heap.size + 1) 0 (.slice none 0 0) kZ) (h3 : JobsO (w.heap.size + 2) wx (.slice (some ⟨g, 0, none⟩) n c4) n f) (h4 : Below w.heap.size w wx) (jb : Jb) (x y : Int) :
    St w p (.slice (some ⟨g, 0, none⟩) n c4) ⟨x, y, k.n, k.d, k.c, k.t⟩ wx.heap.size jb g n c4 (upd f 0 jb) (((((((wx.setCell ⟨w.heap.size, 2, none⟩ (.int .i64 x)).setCell ⟨w.heap.size, 3, none⟩ (.int .i64 y)).setCell ⟨g, 0, none⟩ (.int .i64 jb.l)).setCell ⟨g, 1, none⟩ (.int .i64 jb.c)).setCell ⟨g, 2, none⟩ (.int .i64 jb.a)).setCell ⟨g, 3, none⟩ (.int .i64 jb.d)).alloc (.cells #[.int .i64 jb.l, .int .i64 jb.c, .int .i64 jb.a, .int .i64 jb.d] JT)) := by
  have hl := (World.ownsRow.lt h3 g rfl).1
  have e : ∀ (W : World) q u, (W.setCell q u).heap.size = W.heap.size := fun W q u => by simp [World.setCell]
  have hn := St.new (w := w) (p := p) (k := ⟨x, y, k.n, k.d, k.c, k.t⟩) (g := g) (n := n) (f := upd f 0 jb) (c4 := c4) (wx := (((((wx.setCell ⟨w.heap.size, 2, none⟩ (.int .i64 x)).setCell ⟨w.heap.size, 3, none⟩ (.int .i64 y)).setCell ⟨g, 0, none⟩ (.int .i64 jb.l)).setCell ⟨g, 1, none⟩ (.int .i64 jb.c)).setCell ⟨g, 2, none⟩ (.int .i64 jb.a)).setCell ⟨g, 3, none⟩ (.int .i64 jb.d)) ?_ ?_ ?_ ?_ jb
  · rw [e, e, e, e, e, e] at hn
    exact hn
  · iterate 4 refine HasT.other ?_ _ _ (by show g ≠ w.heap.size; omega)
    exact (h1.set2 x).set3 y
  · iterate 4 refine HasT.other ?_ _ _ (by show g ≠ w.heap.size + 1; omega)
    iterate 2 refine HasT.other ?_ _ _ (by show w.heap.size ≠ w.heap.size + 1; omega)
    exact h2
  · have h0 := own_low (own_low h3 ⟨w.heap.size, 2, none⟩ (.int .i64 x) (by show w.heap.size < w.heap.size + 2; omega)) ⟨w.heap.size, 3, none⟩ (.int .i64 y) (by show w.heap.size < w.heap.size + 2; omega)
    have k1 := (World.ownsRow.stored h0 (0 * 4) (.int .i64 jb.l)).1
    have k2 := (World.ownsRow.stored k1 (0 * 4 + 1) (.int .i64 jb.c)).1
    have k3 := (World.ownsRow.stored k2 (0 * 4 + 2) (.int .i64 jb.a)).1
    have k4 := (World.ownsRow.stored k3 (0 * 4 + 3) (.int .i64 jb.d)).1
    rw [jbL_set] at k4
    exact k4
  · iterate 4 refine below_low ?_ _ _ (by show w.heap.size ≤ g; omega)
    iterate 2 refine below_low ?_ _ _ (Nat.le_refl _)
    exact h4
theorem St.setT (h : St w p sv k J j g n cap f wx) (i : Nat) (u : Value) {sv' : Value} {k' : Ac} (ht : HasT (wx.setCell ⟨w.heap.size, i, none⟩ u) w.heap.size p sv' k') : St w p sv' k' J j g n cap f (wx.setCell ⟨w.heap.size, i, none⟩ u) :=
  ⟨ht, h.r.other _ _ (by show w.heap.size ≠ w.heap.size + 1; omega), h.j.other _ _ (by have := h.Jl; show w.heap.size ≠ J; omega), h.Jl, h.Jg, own_low h.row _ _ (by show w.heap.size < w.heap.size + 2; omega), h.gl, below_low h.below _ _ (Nat.le_refl _)⟩
theorem St.setJ (h : St w p sv k J j g n cap f wx) (i : Nat) (u : Value) {j' : Jb} (hj : HasJ (wx.setCell ⟨J, i, none⟩ u) J j') : St w p sv k J j' g n cap f (wx.setCell ⟨J, i, none⟩ u) :=
  ⟨h.t.other _ _ (by have := h.Jl; show J ≠ w.heap.size; omega), h.r.other _ _ (by have := h.Jl; show J ≠ w.heap.size + 1; omega), hj, h.Jl, h.Jg, own_ne h.row _ _ h.Jg, h.gl, below_low h.below _ _ (by have := h.Jl; show w.heap.size ≤ J; omega)⟩
theorem St.setR (h : St w p sv k J j g n cap f wx) (jb : Jb) : St w p sv k J j g n cap (upd f 0 jb) ((((wx.setCell ⟨g, 0, none⟩ (.int .i64 jb.l)).setCell ⟨g, 1, none⟩ (.int .i64 jb.c)).setCell ⟨g, 2, none⟩ (.int .i64 jb.a)).setCell ⟨g, 3, none⟩ (.int .i64 jb.d)) := by
  have hg := h.gl
  have hJ := h.Jg
  refine ⟨?_, ?_, ?_, h.Jl, h.Jg, ?_, h.gl, ?_⟩
  · iterate 4 refine HasT.other ?_ _ _ (by show g ≠ w.heap.size; omega)
    exact h.t
  · iterate 4 refine HasT.other ?_ _ _ (by show g ≠ w.heap.size + 1; omega)
    exact h.r
  · iterate 4 refine HasJ.other ?_ _ _ (by show g ≠ J; omega)
    exact h.j
  · have h1 := (World.ownsRow.stored h.row (0 * 4) (.int .i64 jb.l)).1
    have h2 := (World.ownsRow.stored h1 (0 * 4 + 1) (.int .i64 jb.c)).1
    have h3 := (World.ownsRow.stored h2 (0 * 4 + 2) (.int .i64 jb.a)).1
    have h4 := (World.ownsRow.stored h3 (0 * 4 + 3) (.int .i64 jb.d)).1
    rw [jbL_set] at h4
    exact h4
  · iterate 4 refine below_low ?_ _ _ (by show w.heap.size ≤ g; omega)
    exact h.below
end
end Go.Proofs.YtpfhebfkhailfaaDoor
