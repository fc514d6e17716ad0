/- What is done to both trees, each one contract: Add and Remove, whatever the handle is; no condition but those that each row names. -/
import Derived.Test.YtlcdbblbepndoaaDoorVAsk
import Derived.Test.YtlcdbblbepndoaaDoorVRefI
namespace Go.Proofs.YtlcdbblbepndoaaDoor
open Go.RowKit Tr
/-- A row beside a number, and what the trees are. -/
def RemA (T : Nat → Prop) (B : Nat) (w : World) (A' : Tab) (bt b : Nat) (l : List Int) (n : Int) (e : Ending) (w' : World) : Prop := ∃ v, e = .returned (.tuple #[v, errV n]) ∧ OwnH w.heap.size w' v l ∧ TR T B w' A' bt b ∧ Keeps T w w'
def RemB (S : Nat → Prop) (w : World) (A' : Tab) (X' : Sh) (l : List Int) (n : Int) (e : Ending) (w' : World) : Prop := ∃ v, OwnH w.heap.size w' v l ∧ RPost S w A' X' v n e w'
structure AddBoth (A : Tab) (X : Sh) (x : Int) (A' : Tab) (X' : Sh) (v n : Int) : Prop where
  rel : Rel A' X'
  a : ∀ (T : Nat → Prop) (B bt b : Nat) (w : World), TR T B w A bt b → Calls Tryd.prog 6 #[.pointer (some ⟨bt, 0, none⟩), .int .i64 x] w (TAct T B w A' bt b (.tuple #[.int .i64 v, errV n]))
  b : ∀ (S : Nat → Prop) (s : TS) (g cap : Nat) (w : World), RS S w A X s g cap → (∀ b, S b → b < w.heap.size) → Calls Tryd.prog 7 #[rtv A.kind s g cap (nl A X).length, .int .i64 x] w (RPost S w A' X' (.int .i64 v) n)
structure RemBoth (A : Tab) (X : Sh) (x : Int) (A' : Tab) (X' : Sh) (l : List Int) (n : Int) : Prop where
  rel : Rel A' X'
  len : l.length ≤ 64
  a : ∀ (T : Nat → Prop) (B bt b : Nat) (w : World), TR T B w A bt b → Calls Tryd.prog 9 #[.pointer (some ⟨bt, 0, none⟩), .int .i64 x] w (RemA T B w A' bt b l n)
  b : ∀ (S : Nat → Prop) (s : TS) (g cap : Nat) (w : World), RS S w A X s g cap → (∀ b, S b → b < w.heap.size) → Calls Tryd.prog 10 #[rtv A.kind s g cap (nl A X).length, .int .i64 x] w (RemB S w A' X' l n)
theorem add_both {A : Tab} {X : Sh} (hR : Rel A X) (x : Int) : ∃ A' X' v n, AddBoth A X x A' X' v n := by
  cases hf : A.find x with
  | none => exact ⟨A, X, 0, 20, hR, fun T B bt b w h => addT_no hR.good w h x hf, fun S s g cap w h _ => raddT_no hR w h x hf⟩
  | some p =>
    obtain ⟨hp, rfl⟩ := hR.found hf
    by_cases hd : X.d p = 8
    · exact ⟨A, X, 0, 90, hR, fun T B bt b w h => addT_deep hR w h p hp hd, fun S s g cap w h _ => raddT_deep hR w h p hp hd⟩
    · have hd8 : X.d p < 8 := by have := hR.tree.d8 p hp; omega
      cases hfr : A.free with
      | none => exact ⟨A, X, 0, 30, hR, fun T B bt b w h => addT_full hR w h p hp hd8 hfr, fun S s g cap w h _ => raddT_full hR w h p hp hd8 hfr⟩
      | some q =>
        exact ⟨A.addAt q (A.hd p), X.add p q, A.hd q, 0, (hR.add hp hd8 hfr).2, fun T B bt b w h => addT_yes hR w h p q hp hd8 hfr, fun S s g cap w h hS => raddT_yes hR w h p hp hd8 hS q hfr⟩
theorem rem_both {A : Tab} {X : Sh} (hR : Rel A X) (x : Int) : ∃ A' X' l n, RemBoth A X x A' X' l n := by
  cases hf : A.find x with
  | none => exact ⟨A, X, [], 20, hR, Nat.zero_le _, fun T B bt b w h => (remT_no hR.good w h x hf).mono fun e w' k => ⟨_, k.1, World.ownsRow_nil _ _ _ _, k.2.1, k.2.2⟩, fun S s g cap w h _ => (rremT_no hR w h x hf).mono fun e w' k => ⟨_, World.ownsRow_nil _ _ _ _, k⟩⟩
  | some p =>
    obtain ⟨hp, rfl⟩ := hR.found hf
    by_cases h0 : p = 0
    · subst h0
      exact ⟨A, X, [], 91, hR, Nat.zero_le _, fun T B bt b w h => (remT_root hR w h).mono fun e w' k => ⟨_, k.1, World.ownsRow_nil _ _ _ _, k.2.1, k.2.2⟩, fun S s g cap w h _ => (rremT_root hR w h).mono fun e w' k => ⟨_, World.ownsRow_nil _ _ _ _, k⟩⟩
    · exact ⟨dropAll A (X.pt p), X.rem p, (X.pt p).map A.hd, 0, hR.remove hp h0, by rw [List.length_map]; exact pt_len hR.tree hp, fun T B bt b w h => (remT_yes hR w h p hp h0).mono fun e w' ⟨v, k1, k2, k3, k4⟩ => ⟨v, k1, k2, k3, k4⟩, fun S s g cap w h hS => rremT_yes hR w h p hp h0 hS⟩
end Go.Proofs.YtlcdbblbepndoaaDoor
namespace Go.Proofs.YtlcdbblbepndoaaDoor
open Go.RowKit Tr
structure PlayV (T : Nat → Prop) (w wr : World) (A : Tab) (X : Sh) (bt b R : Nat) (k0 : Int) (s : TS) (g cap ln : Nat) : Prop where
  rel : Rel A X
  kd : A.kind = k0
  nlen : (nl A X).length = ln
  tr : TR T w.heap.size wr A bt b
  rs : RS (fun x => T x ∨ x = R) wr A X s g cap
  d0 : wr.cell? ⟨R, 0, none⟩ = some (.int .i64 k0)
  d1 : wr.cell? ⟨R, 1, none⟩ = some (.slice s.p s.n s.c)
  d2 : wr.cell? ⟨R, 2, none⟩ = some (.slice s.q s.m s.d)
  d3 : wr.cell? ⟨R, 3, none⟩ = some (.slice s.r s.l s.e)
  d4 : wr.cell? ⟨R, 4, none⟩ = some (.slice (some ⟨g, 0, none⟩) ln cap)
  fz : ∀ j, wr.frozen? ⟨R, j, none⟩ = false
  bel : Below w.heap.size w wr
  lt : R < wr.heap.size
  ge : w.heap.size ≤ R
  nt : ¬ T R
  nb : bt ≠ R
  tl : ∀ x, T x → w.heap.size ≤ x ∧ x < wr.heap.size
variable {T : Nat → Prop} {w wr : World} {A : Tab} {X : Sh} {bt b R : Nat} {k0 : Int} {s : TS} {g cap ln : Nat}
theorem PlayV.below (h : PlayV T w wr A X bt b R k0 s g cap ln) {W : World} (hb : Below wr.heap.size wr W) : PlayV T w W A X bt b R k0 s g cap ln :=
  ⟨h.rel, h.kd, h.nlen, h.tr.below hb, h.rs.below hb, (hb.cell h.lt).trans h.d0, (hb.cell h.lt).trans h.d1, (hb.cell h.lt).trans h.d2, (hb.cell h.lt).trans h.d3, (hb.cell h.lt).trans h.d4, fun j => (hb.frozen h.lt).trans (h.fz j), bnext h.bel hb, Nat.lt_of_lt_of_le h.lt hb.size, h.ge, h.nt, h.nb, fun x hx => ⟨(h.tl x hx).1, Nat.lt_of_lt_of_le (h.tl x hx).2 hb.size⟩⟩
theorem PlayV.size (h : PlayV T w wr A X bt b R k0 s g cap ln) : ∀ x, (T x ∨ x = R) → x < wr.heap.size := fun x hx => by
  rcases hx with hx | rfl
  · exact (h.tl x hx).2
  · exact h.lt
/-- What the program's act leaves of the document's tree. -/
structure Half (T : Nat → Prop) (w wr : World) (A : Tab) (X : Sh) (A' : Tab) (bt b R : Nat) (k0 : Int) (s : TS) (g cap ln : Nat) : Prop where
  kd : A.kind = k0
  nlen : (nl A X).length = ln
  tr : TR T w.heap.size wr A' bt b
  rs : RS (fun x => T x ∨ x = R) wr A X s g cap
  d0 : wr.cell? ⟨R, 0, none⟩ = some (.int .i64 k0)
  d1 : wr.cell? ⟨R, 1, none⟩ = some (.slice s.p s.n s.c)
  d2 : wr.cell? ⟨R, 2, none⟩ = some (.slice s.q s.m s.d)
  d3 : wr.cell? ⟨R, 3, none⟩ = some (.slice s.r s.l s.e)
  d4 : wr.cell? ⟨R, 4, none⟩ = some (.slice (some ⟨g, 0, none⟩) ln cap)
  fz : ∀ j, wr.frozen? ⟨R, j, none⟩ = false
  bel : Below w.heap.size w wr
  lt : R < wr.heap.size
  ge : w.heap.size ≤ R
  nt : ¬ T R
  nb : bt ≠ R
  tl : ∀ x, T x → w.heap.size ≤ x ∧ x < wr.heap.size
theorem PlayV.act (h : PlayV T w wr A X bt b R k0 s g cap ln) {W : World} {A' : Tab} (ht : TR T w.heap.size W A' bt b) (hk : Keeps T wr W) : Half T w W A X A' bt b R k0 s g cap ln :=
  ⟨h.kd, h.nlen, ht, h.rs.keeps (hk.mono fun _ k => .inl k), (hk.cell (p := ⟨R, 0, none⟩) h.lt h.nt).trans h.d0, (hk.cell (p := ⟨R, 1, none⟩) h.lt h.nt).trans h.d1, (hk.cell (p := ⟨R, 2, none⟩) h.lt h.nt).trans h.d2, (hk.cell (p := ⟨R, 3, none⟩) h.lt h.nt).trans h.d3, (hk.cell (p := ⟨R, 4, none⟩) h.lt h.nt).trans h.d4,
    fun j => (World.frozen?_of_block (a := ⟨R, j, none⟩) (hk.block R h.lt h.nt)).trans (h.fz j), below_keeps h.bel hk (fun x hx => (h.tl x hx).1), Nat.lt_of_lt_of_le h.lt hk.size, h.ge, h.nt, h.nb, fun x hx => ⟨(h.tl x hx).1, Nat.lt_of_lt_of_le (h.tl x hx).2 hk.size⟩⟩
theorem cells5 {W : World} {R : Nat} {x0 x1 x2 x3 x4 : Value} (u0 u1 u2 u3 u4 : Value) (b0 : W.cell? ⟨R, 0, none⟩ = some x0) (b1 : W.cell? ⟨R, 1, none⟩ = some x1) (b2 : W.cell? ⟨R, 2, none⟩ = some x2) (b3 : W.cell? ⟨R, 3, none⟩ = some x3) (b4 : W.cell? ⟨R, 4, none⟩ = some x4) :
    ∀ Z, Z = (((((W.setCell ⟨R, 0, none⟩ u0).setCell ⟨R, 1, none⟩ u1).setCell ⟨R, 2, none⟩ u2).setCell ⟨R, 3, none⟩ u3).setCell ⟨R, 4, none⟩ u4) →
      Z.cell? ⟨R, 0, none⟩ = some u0 ∧ Z.cell? ⟨R, 1, none⟩ = some u1 ∧ Z.cell? ⟨R, 2, none⟩ = some u2 ∧ Z.cell? ⟨R, 3, none⟩ = some u3 ∧ Z.cell? ⟨R, 4, none⟩ = some u4 := by
  rintro Z rfl
  have o : ∀ (W : World) (i j : Nat) (u : Value), i ≠ j → (W.setCell ⟨R, i, none⟩ u).cell? ⟨R, j, none⟩ = W.cell? ⟨R, j, none⟩ := fun W i j u e => World.cell?_setCell_other W _ _ _ (by first | (simp; done) | (simp; exact e))
  refine ⟨?_, ?_, ?_, ?_, ?_⟩
  · rw [o _ _ _ _ (by omega), o _ _ _ _ (by omega), o _ _ _ _ (by omega), o _ _ _ _ (by omega)]; exact World.cell?_setCell_same W _ _ b0
  · rw [o _ _ _ _ (by omega), o _ _ _ _ (by omega), o _ _ _ _ (by omega)]; exact World.cell?_setCell_same _ _ _ ((o _ _ _ _ (by omega)).trans b1)
  · rw [o _ _ _ _ (by omega), o _ _ _ _ (by omega)]; exact World.cell?_setCell_same _ _ _ ((o _ _ _ _ (by omega)).trans ((o _ _ _ _ (by omega)).trans b2))
  · rw [o _ _ _ _ (by omega)]; exact World.cell?_setCell_same _ _ _ ((o _ _ _ _ (by omega)).trans ((o _ _ _ _ (by omega)).trans ((o _ _ _ _ (by omega)).trans b3)))
  · exact World.cell?_setCell_same _ _ _ ((o _ _ _ _ (by omega)).trans ((o _ _ _ _ (by omega)).trans ((o _ _ _ _ (by omega)).trans ((o _ _ _ _ (by omega)).trans b4))))
/-- Both trees are abreast again: the document's new tree is stored. -/
theorem Half.turn {A' : Tab} {X' : Sh} (h : Half T w wr A X A' bt b R k0 s g cap ln) (hrel : Rel A' X') (hkd : A'.kind = k0) {w5 : World} {s2 : TS} {g2 cap2 : Nat} (hrs : RS (fun x => T x ∨ x = R) w5 A' X' s2 g2 cap2) (hb : Below wr.heap.size wr w5) :
    PlayV T w (((((w5.setCell ⟨R, 0, none⟩ (.int .i64 k0)).setCell ⟨R, 1, none⟩ (.slice s2.p s2.n s2.c)).setCell ⟨R, 2, none⟩ (.slice s2.q s2.m s2.d)).setCell ⟨R, 3, none⟩ (.slice s2.r s2.l s2.e)).setCell ⟨R, 4, none⟩ (.slice (some ⟨g2, 0, none⟩) (nl A' X').length cap2)) A' X' bt b R k0 s2 g2 cap2 (nl A' X').length := by
  have hk := keeps5 w5 R (.int .i64 k0) (.slice s2.p s2.n s2.c) (.slice s2.q s2.m s2.d) (.slice s2.r s2.l s2.e) (.slice (some ⟨g2, 0, none⟩) (nl A' X').length cap2)
  obtain ⟨c0, c1, c2, c3, c4⟩ := cells5 (.int .i64 k0) (.slice s2.p s2.n s2.c) (.slice s2.q s2.m s2.d) (.slice s2.r s2.l s2.e) (.slice (some ⟨g2, 0, none⟩) (nl A' X').length cap2) ((hb.cell h.lt).trans h.d0) ((hb.cell h.lt).trans h.d1) ((hb.cell h.lt).trans h.d2) ((hb.cell h.lt).trans h.d3) ((hb.cell h.lt).trans h.d4) _ rfl
  have h5 := h.tr.below hb
  refine ⟨hrel, hkd, rfl, ?_, hrs.keeps (hk.mono fun x e => .inr e), c0, c1, c2, c3, c4, fun j => ?_, below_keeps (bnext h.bel hb) hk (fun x e => by have := h.ge; omega), Nat.lt_of_lt_of_le (Nat.lt_of_lt_of_le h.lt hb.size) hk.size, h.ge, h.nt, h.nb, fun x hx => ⟨(h.tl x hx).1, Nat.lt_of_lt_of_le (Nat.lt_of_lt_of_le (h.tl x hx).2 hb.size) hk.size⟩⟩
  · exact h5.keeps hk (fun x hx e => h.nt (e ▸ hx)) h.nb
  · rw [World.frozen?_setCell, World.frozen?_setCell, World.frozen?_setCell, World.frozen?_setCell, World.frozen?_setCell]
    exact (hb.frozen h.lt).trans (h.fz j)
end Go.Proofs.YtlcdbblbepndoaaDoor
