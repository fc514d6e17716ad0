/- The law's own copies of tasks, each with jobs of its own, and what is stored into them; no condition but those that each row names. -/
import Derived.Test.YtedgchafligndaaGreatJKJPlay
import Derived.Test.YtedgchafligndaaGreatJKJAppB
import Derived.Test.YtedgchafligndaaGreatJB11
import Derived.Test.YtedgchafligndaaGreatJB13
import Derived.Test.YtedgchafligndaaGreatJKJOpens
import Derived.Deep.CutBlock
namespace Go.Proofs.YtedgchafligndaaGreat
open Go.RowKit Tsk

theorem Pl_tm {S X : Nat → Prop} {B : Nat} {w : World} {A : Tab} {T : Nat → Tk} {la : Int} {v : Value} {s : Nat → Value} (h : Pl S X B w A (tm T s) la v) : Pl S X B w A T la v := h
theorem fill_tm (taken : List Bool) (TT : Nat → Tk) (sl : Nat → Value) : ∃ s2, fillT taken (tm TT sl) 16 = tm (fillT taken TT 16) s2 := by
  refine ⟨fun i => if i < 16 ∧ taken.getD i false = true then sl (rank taken i) else .slice none 0 0, ?_⟩
  funext i
  unfold fillT tm
  by_cases c : i < 16 ∧ taken.getD i false = true
  · simp only [if_pos c]
  · simp only [if_neg c]; try rfl
theorem own_small3 {B e z n : Nat} {w : World} {v : Value} {xs : List Value} (h : w.ownsRow B e z v n xs) : v.ownBlock = none ∨ ∃ g cap, v = .slice (some ⟨g, 0, none⟩) n cap ∧ B ≤ g ∧ g < w.heap.size := by
  rcases h.2 with ⟨rfl, _⟩ | ⟨g, cap, cur, rfl, hb, hg, _⟩
  · exact .inl rfl
  · exact .inr ⟨g, cap, rfl, hb, (Array.getElem?_eq_some_iff.1 hg).1⟩
/-- What is copied so far. -/
structure CpI (w : World) (TT : Nat → Tk) (i : Nat) (xv : Value) (sr : Nat → Value) (wr : World) : Prop where
  row : wr.ownsRow w.heap.size KT 8 xv i (tkL (tm TT sr) i)
  job : ∀ j, j < i → JobsO w.heap.size wr (sr j) (TT j).n (TT j).f ∧ ((sr j).ownBlock = none ∨ (sr j).ownBlock ≠ xv.ownBlock)
  bel : Below w.heap.size w wr
theorem CpI.step {w wr W4 w5 : World} {TT : Nat → Tk} {i : Nat} {xv : Value} {sr : Nat → Value} (h : CpI w TT i xv sr wr) {s : Value} (hb : Below wr.heap.size wr W4) (hs : JobsO wr.heap.size W4 s (TT i).n (TT i).f)
    {pn : Option Addr} {c : Nat} (ho : w5.ownsRow w.heap.size KT 8 (.slice pn (i + 1) c) (i + 1) (tkL (tm TT (upd sr i s)) (i + 1))) (hg : W4.grownBy w5 xv.ownBlock) (ha : ∀ g, (Value.slice pn (i + 1) c).ownBlock = some g → xv.ownBlock = some g ∨ W4.heap.size ≤ g) : CpI w TT (i + 1) (.slice pn (i + 1) c) (upd sr i s) w5 := by
  have hlt := fun g e => (World.ownsRow.lt h.row g e)
  have hw := h.bel.size
  have hwr := hb.size
  obtain ⟨g0, _, e0, _, _, _⟩ := own_block2 ho (by omega)
  have hk0 : (Value.slice pn (i + 1) c).ownBlock = some g0 := by rw [e0]; rfl
  have key : ∀ {B : Nat} {t : Value} {n : Nat} {f : Nat → Jb}, JobsO B W4 t n f → (t.ownBlock = none ∨ t.ownBlock ≠ xv.ownBlock) → JobsO B w5 t n f ∧ (t.ownBlock = none ∨ t.ownBlock ≠ (Value.slice pn (i + 1) c).ownBlock) := fun h1 h2 => by
    refine ⟨World.ownsRow.kept h1 hg h2, h2.imp id fun h3 e => ?_⟩
    rw [hk0] at e
    rcases ha g0 hk0 with q | q
    · exact h3 (by rw [e, q])
    · have := (World.ownsRow.lt h1 g0 e).2; omega
  refine ⟨ho, fun j hj => ?_, (bnext h.bel hb).grown hg (by omega) (fun g e => (hlt g e).1)⟩
  by_cases e : j = i
  · subst e
    rw [upd_same]
    obtain ⟨k1, k2⟩ := key hs (by
      rcases own_small3 hs with q | ⟨g, cap, rfl, hg1, hg2⟩
      · exact .inl q
      · refine .inr fun e => ?_
        have := (hlt g e.symm).2
        omega)
    exact ⟨own_base2 k1 hw, k2⟩
  · rw [upd_ne _ e]
    obtain ⟨k1, k2⟩ := h.job j (by omega)
    exact key (own_under k1 hb) k2
theorem CpI.tasks {w wr : World} {TT : Nat → Tk} {m : Nat} {xv : Value} {sr : Nat → Value} (h : CpI w TT m xv sr wr) (hm : m ≤ 9223372036854775807) (hn : ∀ j, j < m → (TT j).n ≤ 9223372036854775807) : Tasks wr xv m (tm TT sr) :=
  own_tasks h.row hm fun j hlt => own_jobs (h.job j hlt).1 (hn j hlt)
/-- The copies as they are stored into: the tasks' row in block lb, their jobs in blocks of B to E. -/
structure Mine (B E lb m : Nat) (sr : Nat → Value) (N : Nat → Nat) (W : World) : Prop where
  fz : 0 < m → ∀ o, W.frozen? ⟨lb, o, none⟩ = false
  hd : ∀ j, j < m → W.cell? ⟨lb, j * 8 + 1, none⟩ = some (sr j)
  pr : ∀ j, j < m → ∃ u, W.cell? ⟨lb, j * 8, none⟩ = some u
  jb : ∀ j, j < m → ∃ q c, sr j = .slice q (N j) c ∧ ∀ k, k < N j → ∃ b, q = some ⟨b, 0, none⟩ ∧ B ≤ b ∧ b < E ∧ b ≠ lb ∧ (∃ u, W.cell? ⟨b, k * 4, none⟩ = some u) ∧ ∀ o, W.frozen? ⟨b, o, none⟩ = false
theorem some_set {W : World} {a p : Addr} {u v : Value} (h : W.cell? a = some u) : ∃ u, (W.setCell p v).cell? a = some u := by
  by_cases e : p = a
  · subst e; exact ⟨v, World.cell?_setCell_same W p v h⟩
  · exact ⟨u, (World.cell?_setCell_other W p a v e).trans h⟩
theorem Mine.set {B E lb m : Nat} {sr : Nat → Value} {N : Nat → Nat} {W : World} (h : Mine B E lb m sr N W) (p : Addr) (v : Value) (hp : ∀ j, p ≠ ⟨lb, j * 8 + 1, none⟩) : Mine B E lb m sr N (W.setCell p v) := by
  refine ⟨fun h0 o => by simpa using h.fz h0 o, fun j hj => (World.cell?_setCell_other W _ _ v (hp j)).trans (h.hd j hj), fun j hj => ?_, fun j hj => ?_⟩
  · obtain ⟨u, hu⟩ := h.pr j hj
    exact some_set hu
  · obtain ⟨q, c, e, hk⟩ := h.jb j hj
    refine ⟨q, c, e, fun k hkn => ?_⟩
    obtain ⟨b, e2, h1, h2, h3, ⟨u, hu⟩, h4⟩ := hk k hkn
    exact ⟨b, e2, h1, h2, h3, some_set hu, fun o => by simpa using h4 o⟩
theorem Mine.keeps {R : Nat → Prop} {B E lb m : Nat} {sr : Nat → Value} {N : Nat → Nat} {W W' : World} (h : Mine B E lb m sr N W) (hl : 0 < m → lb < E) (hE : E ≤ W.heap.size) (hk : Keeps R W W') (hR : ∀ x, R x → E ≤ x) : Mine B E lb m sr N W' := by
  have kc := fun (b o : Nat) (hlt : b < E) => hk.cell (p := ⟨b, o, none⟩) (show b < W.heap.size by omega) (fun q => absurd (hR _ q) (show ¬ E ≤ b by omega))
  have kf : ∀ b, b < E → (∀ o, W.frozen? ⟨b, o, none⟩ = false) → ∀ o, W'.frozen? ⟨b, o, none⟩ = false := fun b hlt h1 o => by
    have h2 := hk.block b (by omega) (fun q => absurd (hR _ q) (show ¬ E ≤ b by omega))
    have h3 := h1 o
    unfold World.frozen? at h3 ⊢
    rw [h2]
    exact h3
  refine ⟨fun h0 => kf lb (hl h0) (h.fz h0), fun j hj => (kc _ _ (hl (by omega))).trans (h.hd j hj), fun j hj => ?_, fun j hj => ?_⟩
  · obtain ⟨u, hu⟩ := h.pr j hj
    exact ⟨u, (kc _ _ (hl (by omega))).trans hu⟩
  · obtain ⟨q, c, e, hk'⟩ := h.jb j hj
    refine ⟨q, c, e, fun k hkn => ?_⟩
    obtain ⟨b, e2, h1, h2, h3, ⟨u, hu⟩, h4⟩ := hk' k hkn
    exact ⟨b, e2, h1, h2, h3, ⟨u, (kc _ _ h2).trans hu⟩, kf b h2 h4⟩
theorem own_free {B e z n g cap : Nat} {w : World} {xs : List Value} (h : w.ownsRow B e z (.slice (some ⟨g, 0, none⟩) n cap) n xs) : ∀ o, w.frozen? ⟨g, o, none⟩ = false := fun o => by
  rcases h.2 with ⟨e, _⟩ | ⟨g', cap', cur, e, hb, hg, _⟩
  · cases e
  · cases e
    unfold World.frozen?
    rw [hg]
    simp
theorem CpI.mine {w wr : World} {TT : Nat → Tk} {m : Nat} {sr : Nat → Value} {lb c : Nat} (h : CpI w TT m (.slice (some ⟨lb, 0, none⟩) m c) sr wr) : Mine w.heap.size wr.heap.size lb m sr (fun j => (TT j).n) wr := by
  have hc := fun j r (hj : j < m) (hr : r < 8) => (World.ownsRow.cellAt h.row (j * 8 + r) (by omega)).trans (tkL_at (tm TT sr) hj r hr)
  refine ⟨fun _ => own_free h.row, fun j hj => ?_, fun j hj => ⟨_, hc j 0 hj (by omega)⟩, fun j hj => ?_⟩
  · exact hc j 1 hj (by omega)
  · obtain ⟨k1, k2⟩ := h.job j hj
    obtain ⟨q, c, e⟩ := own_slice k1
    refine ⟨q, c, e, fun k hk => ?_⟩
    obtain ⟨g, cap, e2, _, hg1, hg2⟩ := own_block2 k1 (by omega)
    rw [e] at e2
    cases e2
    rw [e] at k1 k2
    refine ⟨g, rfl, hg1, hg2, ?_, ?_, own_free k1⟩
    · rintro rfl
      rcases k2 with q | q
      · cases q
      · exact q rfl
    · skip
      obtain ⟨u, hu⟩ : ∃ u, (jbL (TT j).f (TT j).n)[k * 4]? = some u := ⟨_, List.getElem?_eq_getElem (by have := k1.1; omega)⟩
      exact ⟨u, (World.ownsRow.cellAt k1 (k * 4) (by omega)).trans hu⟩
theorem CpI.mine' {w wr : World} {TT : Nat → Tk} {m : Nat} {sr : Nat → Value} {p : Option Addr} {c : Nat} (h : CpI w TT m (.slice p m c) sr wr) : ∃ lb, (0 < m → p = some ⟨lb, 0, none⟩ ∧ w.heap.size ≤ lb ∧ lb < wr.heap.size) ∧ Mine w.heap.size wr.heap.size lb m sr (fun j => (TT j).n) wr := by
  by_cases h0 : 0 < m
  · obtain ⟨g, cap, e, _, h1, h2⟩ := own_block2 h.row h0
    cases e
    exact ⟨g, fun _ => ⟨rfl, h1, h2⟩, h.mine⟩
  · exact ⟨0, fun k => absurd k h0, ⟨fun k => absurd k h0, fun j hj => by omega, fun j hj => by omega, fun j hj => by omega⟩⟩
/-- The stores' own state. -/
structure StI (w2 wr w5 : World) (lb m : Nat) (sr : Nat → Value) (N : Nat → Nat) (W : World) : Prop where
  mi : Mine w2.heap.size wr.heap.size lb m sr N W
  ke : Keeps (fun x => w2.heap.size ≤ x ∧ x < wr.heap.size) w5 W
theorem StI.set {w2 wr w5 : World} {lb m : Nat} {sr : Nat → Value} {N : Nat → Nat} {W : World} (h : StI w2 wr w5 lb m sr N W) (p : Addr) (v : Value) (hp : ∀ j, p ≠ ⟨lb, j * 8 + 1, none⟩) (h1 : w2.heap.size ≤ p.block ∧ p.block < wr.heap.size) : StI w2 wr w5 lb m sr N (W.setCell p v) :=
  ⟨h.mi.set p v hp, h.ke.setS _ _ h1⟩
end Go.Proofs.YtedgchafligndaaGreat
