/- Plain facts for TreeWhole: where a path's ends stand, how often a child stands among its parent's, what is left; nothing of the program is walked; no condition. -/
import Derived.Test.YtlcdbblbepndoaaDoorVTree
namespace Go.Proofs.YtlcdbblbepndoaaDoor
open Go.RowKit Tr

section
variable {A : Tab} {X : Sh}
theorem path_last (hR : Rel A X) {x : Nat} (hx : X.t x = true) : (X.path x)[X.d x]? = some x := path_get hR.tree hx (back_self X x)
theorem path_first (hR : Rel A X) {x : Nat} (hx : X.t x = true) : (X.path x)[0]? = some 0 := by
  have := path_get hR.tree hx (back_root hR.tree x hx)
  rw [hR.tree.d0] at this
  exact this
theorem path_prev (hR : Rel A X) {x : Nat} (hx : X.t x = true) (h0 : x ≠ 0) : (X.path x)[X.d x - 1]? = some (X.u x) := by
  have := path_get hR.tree hx (back_step hR.tree x hx x (back_self X x) h0)
  rw [show X.d (X.u x) = X.d x - 1 by have := (hR.tree.up x hx h0).2; omega] at this
  exact this
/-- How often a number stands in a row. -/
def cnt (l : List Int) (z : Int) : Nat := (l.filter fun y => decide (y = z)).length
theorem cnt_snoc (l : List Int) (y z : Int) : cnt (l ++ [y]) z = cnt l z + if y = z then 1 else 0 := by
  unfold cnt
  rw [List.filter_append, List.length_append, List.filter_cons, List.filter_nil]
  by_cases e : y = z <;> simp [e]
theorem cnt_one {l : List Nat} (hn : l.Nodup) {f : Nat → Int} {x : Nat} (hx : x ∈ l) (hf : ∀ y ∈ l, f y = f x → y = x) : cnt (l.map f) (f x) = 1 := by
  induction l with
  | nil => cases hx
  | cons a r ih =>
    obtain ⟨h1, h2⟩ := List.nodup_cons.1 hn
    unfold cnt
    rw [List.map_cons, List.filter_cons]
    rcases List.mem_cons.1 hx with rfl | hx'
    · rw [if_pos (by simp)]
      have : (r.map f).filter (fun y => decide (y = f x)) = [] := by
        rw [List.filter_eq_nil_iff]
        intro z hz
        obtain ⟨y, hy, rfl⟩ := List.mem_map.1 hz
        simp only [decide_eq_true_eq]
        intro e
        have := hf y (by simp [hy]) e
        subst this
        exact h1 hy
      rw [this]; rfl
    · have hne : f a ≠ f x := fun e => by
        have := hf a (by simp) e
        subst this
        exact h1 hx'
      rw [if_neg (by simpa using hne)]
      exact ih h2 hx' fun y hy => hf y (by simp [hy])
theorem cnt_kid (hR : Rel A X) {x : Nat} (hx : X.t x = true) (h0 : x ≠ 0) : cnt ((X.kids (X.u x)).map A.hd) (A.hd x) = 1 := by
  refine cnt_one (kids_nodup X _) ((mem_kids hR.tree).2 ⟨hx, h0, rfl⟩) fun y hy e => ?_
  exact hR.inj ((mem_kids hR.tree).1 hy).1 hx e
/-- What is left behind a Remove. -/
theorem rem_list (hR : Rel A X) {i : Nat} (hi : X.t i = true) (h0 : i ≠ 0) : ((X.rem i).pt 0).map (dropAll A (X.pt i)).hd = ((X.pt 0).filter fun x => decide (x ∉ X.pt i)).map A.hd := by
  have hD := dropped_take hR.good (pt_nodup hR.tree i hi) (fun x hx => by
    have hx' := (pt_back hR.tree i hi x hx).1
    exact ⟨hR.lt hx', by rw [hR.t]; exact hx'⟩) _ (Nat.le_refl _)
  rw [List.take_length] at hD
  rw [rem_filter hR.tree hi h0]
  refine List.map_congr_left fun x hx => ?_
  have := (List.mem_filter.1 hx).2
  exact hD.hd (by simpa using this)
theorem pt_zero (hR : Rel A X) : (X.pt 0)[0]? = some 0 := by rw [pt_eq hR.tree hR.tree.t0]; rfl
theorem pt_not0 (hR : Rel A X) {j x : Nat} (hj : 0 < j) (hx : (X.pt 0)[j]? = some x) : x ≠ 0 := by
  rintro rfl
  have := idx_uniq (pt_nodup hR.tree 0 hR.tree.t0) hx (pt_zero hR)
  omega
end
/-- Two rows of the call's own, neither the other. -/
structure Two (B : Nat) (w : World) (u v : Value) (W O : List Int) : Prop where
  a : OwnH B w u W
  b : OwnH B w v O
  ne : ∀ g, u.ownBlock = some g → v.ownBlock ≠ some g
theorem Two.nil (B : Nat) (w : World) : Two B w (.slice none 0 0) (.slice none 0 0) [] [] := ⟨World.ownsRow_nil _ _ _ _, World.ownsRow_nil _ _ _ _, fun g e => by simp [Value.ownBlock] at e⟩
theorem Two.below {B : Nat} {w w' : World} {u v : Value} {W O : List Int} (h : Two B w u v W O) (hb : Below w.heap.size w w') : Two B w' u v W O := ⟨h.a.below hb, h.b.below hb, h.ne⟩
theorem Two.symm {B : Nat} {w : World} {u v : Value} {W O : List Int} (h : Two B w u v W O) : Two B w v u O W := ⟨h.b, h.a, fun g e k => h.ne g k e⟩
theorem Two.keeps {S : Nat → Prop} {B : Nat} {w w' : World} {u v : Value} {W O : List Int} (h : Two B w u v W O) (hk : Keeps S w w') (hS : ∀ x, S x → x < B) : Two B w' u v W O := ⟨h.a.keeps hk hS, h.b.keeps hk hS, h.ne⟩
/-- Behind an append of one to the first. -/
theorem Two.push {B : Nat} {w w3 : World} {u v u' : Value} {W O : List Int} {o : Obj} {y : Int} (h : Two B w u v W O) (ho : w3.ownsRow B 33 1 u' (W.length + 1) (ints W ++ [.int .i64 y])) (hg : (w.alloc o).grownBy w3 u.ownBlock)
    (hat : u'.ownBlock = u.ownBlock ∨ u'.ownBlock = some (w.heap.size + 1)) : Two B w3 u' v (W ++ [y]) O := by
  refine ⟨?_, ?_, fun g e k => ?_⟩
  · unfold OwnH
    rw [← ints_snoc, List.length_append]
    exact ho
  · exact own_keeps (S := fun b => u.ownBlock = some b) (World.ownsRow.alloc h.b o) ((Keeps.refl _ _).grown hg fun k e => .inl e) fun g e k => h.ne g k e
  · rcases hat with h1 | h1
    · exact h.ne g (h1 ▸ e) k
    · rw [h1] at e
      injection e with e
      have := (World.ownsRow.lt h.b g k).2
      omega
end Go.Proofs.YtlcdbblbepndoaaDoor
