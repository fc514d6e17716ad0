/- The document's own tree: what turns: the ways of Add and Remove that refuse; no condition but those that each row names. -/
import Derived.Test.YtlcdbblbepndoaaDoorVRefE
import Derived.IntWalk
namespace Go.Proofs.YtlcdbblbepndoaaDoor
open Go.RowKit Tr

/-- The document's table: it holds noughts. -/
def zA (A : Tab) : Tab := { A with list := List.replicate 64 0 }
theorem set_rep (n i : Nat) (a : Int) : (List.replicate n a).set i a = List.replicate n a := by
  refine List.ext_getElem? fun j => ?_
  rw [List.getElem?_set]
  by_cases e : i = j
  · subst e
    by_cases h : i < n <;> simp [h]
  · simp [e]
theorem zA_add (A : Tab) (s : Nat) (v : Int) : (zA A).addAt s 0 = zA (A.addAt s v) := by
  have := set_rep 64 s 0
  simp only [zA, Tab.addAt]
  rw [this]
theorem zA_drop (A : Tab) (s : Nat) : (zA A).dropAt s = zA (A.dropAt s) := by
  have := set_rep 64 s 0
  simp only [zA, Tab.dropAt, Tab.g]
  rw [this]
theorem zA_good {A : Tab} {X : Sh} (h : Rel A X) : (zA A).Good := ⟨h.good.k1, h.good.k3, h.good.n1, h.good.n4, h.good.lt, by have := h.len; show (List.replicate 64 (0 : Int)).length = A.gens.length; rw [List.length_replicate, this], h.good.g1, h.good.gt⟩
theorem zA_goodD {A : Tab} (h : A.Good) (hl : A.gens.length = 64) : (zA A).Good := ⟨h.k1, h.k3, h.n1, h.n4, h.lt, by show (List.replicate 64 (0 : Int)).length = A.gens.length; rw [List.length_replicate, hl], h.g1, h.gt⟩
theorem zA_free (A : Tab) : (zA A).free = A.free := rfl
theorem zA_find (A : Tab) (x : Int) : (zA A).find x = A.find x := rfl
theorem zA_hd (A : Tab) (i : Nat) : (zA A).hd i = A.hd i := rfl

/-- The document's tree in a world. -/
structure RS (S : Nat → Prop) (w : World) (A : Tab) (X : Sh) (s : TS) (g cap : Nat) : Prop where
  rt : RT S w (zA A) (.slice s.p s.n s.c) (.slice s.q s.m s.d) (.slice s.r s.l s.e)
  rd : RD S w g cap (nl A X)
theorem RS.keeps {S : Nat → Prop} {w w' : World} {A : Tab} {X : Sh} {s : TS} {g cap : Nat} (h : RS S w A X s g cap) (hk : Keeps S w w') : RS S w' A X s g cap := ⟨h.rt.keeps hk, h.rd.keeps hk⟩
theorem RS.below {S : Nat → Prop} {w w' : World} {A : Tab} {X : Sh} {s : TS} {g cap : Nat} (h : RS S w A X s g cap) (hb : Below w.heap.size w w') : RS S w' A X s g cap := ⟨h.rt.below hb, h.rd.below hb⟩
/-- What an act of the document's answers. -/
def RPost (S : Nat → Prop) (w : World) (A' : Tab) (X' : Sh) (r : Value) (n : Int) (e : Ending) (w' : World) : Prop :=
  ∃ s g cap, e = .returned (.tuple #[rtv A'.kind s g cap (nl A' X').length, r, .int .i64 n]) ∧ RS S w' A' X' s g cap ∧ Below w.heap.size w w'

abbrev treeT : TypeId := 31
abbrev tcells (k : Int) (s : TS) (g cap n : Nat) : Array Value := #[.int .i64 k, .slice s.p s.n s.c, .slice s.q s.m s.d, .slice s.r s.l s.e, .slice (some ⟨g, 0, none⟩) n cap]
abbrev zcells : Array Value := #[.int .i64 0, .slice none 0 0, .slice none 0 0, .slice none 0 0, .slice none 0 0]
/-- The five cells that came, and the five of the result. -/
structure Ten (w W : World) (k0 : Int) (s : TS) (g cap n : Nat) : Prop where
  d0 : W.cell? ⟨w.heap.size, 0, none⟩ = some (.int .i64 k0)
  d1 : W.cell? ⟨w.heap.size, 1, none⟩ = some (.slice s.p s.n s.c)
  d2 : W.cell? ⟨w.heap.size, 2, none⟩ = some (.slice s.q s.m s.d)
  d3 : W.cell? ⟨w.heap.size, 3, none⟩ = some (.slice s.r s.l s.e)
  d4 : W.cell? ⟨w.heap.size, 4, none⟩ = some (.slice (some ⟨g, 0, none⟩) n cap)
  z0 : W.cell? ⟨w.heap.size + 1, 0, none⟩ = some (.int .i64 0)
  z1 : W.cell? ⟨w.heap.size + 1, 1, none⟩ = some (.slice none 0 0)
  z2 : W.cell? ⟨w.heap.size + 1, 2, none⟩ = some (.slice none 0 0)
  z3 : W.cell? ⟨w.heap.size + 1, 3, none⟩ = some (.slice none 0 0)
  z4 : W.cell? ⟨w.heap.size + 1, 4, none⟩ = some (.slice none 0 0)
  zf : ∀ j, W.frozen? ⟨w.heap.size + 1, j, none⟩ = false
  lt : w.heap.size + 1 < W.heap.size
theorem ten_of {w W : World} {k0 : Int} {s : TS} {g cap n : Nat} (h : Below ((w.alloc (.cells (tcells k0 s g cap n) treeT)).alloc (.cells zcells treeT)).heap.size ((w.alloc (.cells (tcells k0 s g cap n) treeT)).alloc (.cells zcells treeT)) W) : Ten w W k0 s g cap n := by
  have hc := fun o => h.cell (p := ⟨w.heap.size, o, none⟩) (by simp; omega)
  have hz := fun o => h.cell (p := ⟨w.heap.size + 1, o, none⟩) (by simp)
  have hf := fun o => h.frozen (p := ⟨w.heap.size + 1, o, none⟩) (by simp)
  have hs := h.size
  simp at hs
  have a0 := hc 0
  have a1 := hc 1
  have a2 := hc 2
  have a3 := hc 3
  have a4 := hc 4
  have b0 := hz 0
  have b1 := hz 1
  have b2 := hz 2
  have b3 := hz 3
  have b4 := hz 4
  simp at a0 a1 a2 a3 a4 b0 b1 b2 b3 b4
  exact ⟨a0, a1, a2, a3, a4, b0, b1, b2, b3, b4, fun j => (hf j).trans (by simp), by omega⟩
theorem Ten.below {w W W' : World} {k0 : Int} {s : TS} {g cap n : Nat} (h : Ten w W k0 s g cap n) (hb : Below W.heap.size W W') : Ten w W' k0 s g cap n := by
  have l := h.lt
  have hc := fun o => hb.cell (p := ⟨w.heap.size, o, none⟩) (by simp; omega)
  have hz := fun o => hb.cell (p := ⟨w.heap.size + 1, o, none⟩) (by simp; omega)
  have hf := fun o => hb.frozen (p := ⟨w.heap.size + 1, o, none⟩) (by simp; omega)
  exact ⟨(hc 0).trans h.d0, (hc 1).trans h.d1, (hc 2).trans h.d2, (hc 3).trans h.d3, (hc 4).trans h.d4, (hz 0).trans h.z0, (hz 1).trans h.z1, (hz 2).trans h.z2, (hz 3).trans h.z3, (hz 4).trans h.z4, fun j => (hf j).trans (h.zf j), Nat.lt_of_lt_of_le l hb.size⟩
theorem keeps5 (W : World) (R : Nat) (u0 u1 u2 u3 u4 : Value) : Keeps (fun b => b = R) W (((((W.setCell ⟨R, 0, none⟩ u0).setCell ⟨R, 1, none⟩ u1).setCell ⟨R, 2, none⟩ u2).setCell ⟨R, 3, none⟩ u3).setCell ⟨R, 4, none⟩ u4) :=
  (((((Keeps.refl (fun b => b = R) W).setCell ⟨R, 0, none⟩ u0 rfl).setCell ⟨R, 1, none⟩ u1 rfl).setCell ⟨R, 2, none⟩ u2 rfl).setCell ⟨R, 3, none⟩ u3 rfl).setCell ⟨R, 4, none⟩ u4 rfl
theorem RT.more {S : Nat → Prop} {w : World} {A : Tab} {a b c : Value} (h : RT S w A a b c) (R : Nat) (hR : w.heap.size ≤ R) : RT (fun x => S x ∨ x = R) w A a b c := h.mono fun b hb k => by rcases k with k | k; exact k; omega

theorem RS.mono {S T : Nat → Prop} {w : World} {A : Tab} {X : Sh} {s : TS} {g cap : Nat} (h : RS S w A X s g cap) (hS : ∀ b, b < w.heap.size → T b → S b) : RS T w A X s g cap :=
  ⟨h.rt.mono hS, h.rd.own, fun k => h.rd.ns (hS g h.rd.lt k), h.rd.pos, h.rd.le⟩
/-- What came is answered. -/
theorem rpost_same {S : Nat → Prop} {w w1 : World} {A : Tab} {X : Sh} {s : TS} {g cap : Nat} (h : RS S w A X s g cap) (hb : Below w.heap.size w w1) (r : Value) (n : Int) (u0 u1 u2 u3 u4 : Value) :
    RPost S w A X r n (.returned (.tuple #[rtv A.kind s g cap (nl A X).length, r, .int .i64 n])) (((((w1.setCell ⟨w.heap.size + 1, 0, none⟩ u0).setCell ⟨w.heap.size + 1, 1, none⟩ u1).setCell ⟨w.heap.size + 1, 2, none⟩ u2).setCell ⟨w.heap.size + 1, 3, none⟩ u3).setCell ⟨w.heap.size + 1, 4, none⟩ u4) := by
  have h1 := h.mono (T := fun x => S x ∨ x = w.heap.size + 1) (fun b hb k => by rcases k with k | k; exact k; omega)
  have hk := keeps5 w1 (w.heap.size + 1) u0 u1 u2 u3 u4
  exact ⟨s, g, cap, rfl, ((h1.below hb).keeps (hk.mono fun b e => .inr e)).mono (fun b _ k => .inl k), below_keeps hb hk (fun b e => by omega)⟩
section
variable {S : Nat → Prop} {A : Tab} {X : Sh} {s : TS} {g cap : Nat}
set_option maxHeartbeats 1000000 in
theorem raddT_no (hR : Rel A X) (w : World) (h : RS S w A X s g cap) (x : Int) (hf : A.find x = none) :
    Calls Tryd.prog 7 #[rtv A.kind s g cap (nl A X).length, .int .i64 x] w (RPost S w A X (.int .i64 0) 20) := by
  have hb0 : ∀ o o', Below w.heap.size w ((w.alloc o).alloc o') := fun o o' => ((Below.refl w.heap.size w).alloc (Nat.le_refl _) o).alloc (by simp) o'
  have HP := Lib.hid (fun w1 (hb : Below w.heap.size w w1) => rplace_no S A.kind s g cap _ w1 (h.rd.below hb) x (nl_none hR hf))
  have HS := Lib.hid h
  have HLL := Lib.hid (show (nl A X).length = (nl A X).length from rfl)
  obtain ⟨L, hL⟩ : ∃ L, L = nl A X := ⟨_, rfl⟩
  rw [← hL] at HP ⊢
  have HLE := Lib.hid hL
  obtain ⟨k0, hk0⟩ : ∃ k0, k0 = A.kind := ⟨_, rfl⟩
  rw [← hk0] at HP ⊢
  have HKE := Lib.hid hk0
  clear h hR hf hL HLL hk0
  go_enter Tryd.func7, Tryd.ntmps7
  go_wp2_with fail
  refine (HP.out _ (hb0 _ _)).mono ?_
  rintro e w1 ⟨rfl, hb1⟩
  obtain ⟨d0, d1, d2, d3, d4, z0, z1, z2, z3, z4, zf, zl⟩ := ten_of hb1
  have HB1 := Lib.hid (bnext (hb0 _ _) hb1)
  clear hb1 hb0
  go_wp2_with fail
  refine bodyPost_ret (v := .tuple #[rtv k0 s g cap L.length, .int .i64 0, .int .i64 20]) ?r1 rfl ?_
  case r1 => simp [results, Tryd.results7, go_sem, z0, z1, z2, z3, z4]
  have := rpost_same HS.out HB1.out (.int .i64 0) 20
  rw [← HLE.out, ← HKE.out] at this
  exact this _ _ _ _ _
set_option maxHeartbeats 1000000 in
theorem raddT_deep (hR : Rel A X) (w : World) (h : RS S w A X s g cap) (p : Nat) (hp : X.t p = true) (hd : X.d p = 8) :
    Calls Tryd.prog 7 #[rtv A.kind s g cap (nl A X).length, .int .i64 (A.hd p)] w (RPost S w A X (.int .i64 0) 90) := by
  have hb0 : ∀ o o', Below w.heap.size w ((w.alloc o).alloc o') := fun o o' => ((Below.refl w.heap.size w).alloc (Nat.le_refl _) o).alloc (by simp) o'
  obtain ⟨j, _, hj⟩ := place_of hR.tree hp
  have HP := Lib.hid (fun w1 (hb : Below w.heap.size w w1) => rplace_yes S A.kind s g cap _ w1 (h.rd.below hb) (A.hd p) j (nl_first hR hj))
  obtain ⟨hjl, hje⟩ := nl_at (A := A) hj
  have HC := Lib.hid (show ∀ w1, Below w.heap.size w w1 → w1.cell? ⟨g, j * 2 + 1, none⟩ = some (.int .i64 8) from fun w1 hb => by
    have := ((h.rd.below hb).at j hjl).2
    rw [hje] at this
    simp only [hd] at this
    exact this)
  have hj0 : (0 : Int) ≤ (j : Int) := by omega
  have hj1 : (j : Int) < ((nl A X).length : Int) := by omega
  have hj2 : decide ((j : Int) < 0) = false := decide_eq_false (by omega)
  have HS := Lib.hid h
  have HLL := Lib.hid (show (nl A X).length = (nl A X).length from rfl)
  obtain ⟨L, hL⟩ : ∃ L, L = nl A X := ⟨_, rfl⟩
  rw [← hL] at HP hj1 ⊢
  have HLE := Lib.hid hL
  obtain ⟨k0, hk0⟩ : ∃ k0, k0 = A.kind := ⟨_, rfl⟩
  rw [← hk0] at HP ⊢
  have HKE := Lib.hid hk0
  clear h hR hp hd hj hjl hje hL HLL hk0
  generalize A.hd p = y at *
  go_enter Tryd.func7, Tryd.ntmps7
  go_wp2_with fail
  refine (HP.out _ (hb0 _ _)).mono ?_
  rintro e w1 ⟨rfl, hb1⟩
  obtain ⟨d0, d1, d2, d3, d4, z0, z1, z2, z3, z4, zf, zl⟩ := ten_of hb1
  have HB1 := Lib.hid (bnext (hb0 _ _) hb1)
  clear hb1 hb0
  have cj := HC.out w1 HB1.out
  go_wp2_with fail
  refine bodyPost_ret (v := .tuple #[rtv k0 s g cap L.length, .int .i64 0, .int .i64 90]) ?r1 rfl ?_
  case r1 => simp [results, Tryd.results7, go_sem, z0, z1, z2, z3, z4]
  have := rpost_same HS.out HB1.out (.int .i64 0) 90
  rw [← HLE.out, ← HKE.out] at this
  exact this _ _ _ _ _
end
end Go.Proofs.YtlcdbblbepndoaaDoor
