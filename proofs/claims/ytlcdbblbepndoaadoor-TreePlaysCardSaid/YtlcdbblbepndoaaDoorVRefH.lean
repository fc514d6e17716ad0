/- The document's own Add, where a node is added; no condition but those that each row names. -/
import Derived.Test.YtlcdbblbepndoaaDoorVRefG
namespace Go.Proofs.YtlcdbblbepndoaaDoor
open Go.RowKit Tr

/-- The document's nodes behind an Add. -/
theorem nl_add {A : Tab} {X : Sh} (hR : Rel A X) {p s j : Nat} (c : CanAdd X p s) (hj : (X.pt 0)[j]? = some p) :
    ∃ q, j < q ∧ q ≤ j + (X.pt p).length ∧ (nl (A.addAt s (A.hd p)) (X.add p s) = (nl A X).take q ++ (A.hd s, ((X.d p + 1 : Nat) : Int)) :: (nl A X).drop q ∧ (nl A X).length ≤ 63) ∧
      (∀ m (h : m < (nl A X).length), j < m → m < q → (nl A X)[m].2 ≠ ((X.d p + 1 : Nat) : Int) ∨ sOf (nl A X)[m].1 < (s : Int)) ∧
      (q < j + (X.pt p).length → ∃ h : q < (nl A X).length, (nl A X)[q].2 = ((X.d p + 1 : Nat) : Int) ∧ (s : Int) < sOf (nl A X)[q].1) := by
  obtain ⟨q, h1, h2, h3, h4, h5⟩ := add_all hR.tree c hj
  refine ⟨q, h1, h2, ⟨?_, ?_⟩, fun m hm hjm hmq => ?_, fun hq => ?_⟩
  · unfold nl
    rw [h3, List.map_append, List.map_cons, List.map_take, List.map_drop]
    have hh : ∀ k, (A.addAt s (A.hd p)).hd k = A.hd k := fun _ => rfl
    have hm : (X.pt 0).map (fun k => ((A.addAt s (A.hd p)).hd k, ((X.add p s).d k : Int))) = (X.pt 0).map fun k => (A.hd k, (X.d k : Int)) := by
      refine List.map_congr_left fun k hk => ?_
      rw [hh, Tr.add_d (c.ne ((pt_all hR.tree).1 hk))]
    rw [hm, hh, Tr.add_ds]
  · rw [nl_len]
    have := pt_len (Tr.add_good hR.tree c) (Tr.add_good hR.tree c).t0
    rw [h3, List.length_append, List.length_cons] at this
    have e := congrArg List.length (List.take_append_drop q (X.pt 0))
    rw [List.length_append] at e
    omega
  · obtain ⟨k, hk, e⟩ := nl_inv hm
    rw [e]
    have hkt := (pt_all hR.tree).1 (List.mem_of_getElem? hk)
    rcases h4 m k hjm hmq hk with h | h
    · exact .inl (by simp only; omega)
    · refine .inr ?_
      simp only
      rw [(hR.parts hkt).2.2.1]
      omega
  · obtain ⟨k, hk, hd, hs⟩ := h5 hq
    obtain ⟨h6, e⟩ := nl_at (A := A) hk
    refine ⟨h6, ?_⟩
    rw [e]
    have hkt := (pt_all hR.tree).1 (List.mem_of_getElem? hk)
    simp only
    rw [(hR.parts hkt).2.2.1]
    omega

/-- A block of four cells of one's own. -/
structure Box4 (B : Nat) (W : World) (k : Int) (a b c : Value) : Prop where
  b0 : W.cell? ⟨B, 0, none⟩ = some (.int .i64 k)
  b1 : W.cell? ⟨B, 1, none⟩ = some a
  b2 : W.cell? ⟨B, 2, none⟩ = some b
  b3 : W.cell? ⟨B, 3, none⟩ = some c
  lt : B < W.heap.size
theorem box4_of {w2 W : World} {k : Int} {a b c : Value} {t : TypeId} (h : Below (w2.alloc (.cells #[.int .i64 k, a, b, c] t)).heap.size (w2.alloc (.cells #[.int .i64 k, a, b, c] t)) W) : Box4 w2.heap.size W k a b c := by
  have hc := fun o => h.cell (p := ⟨w2.heap.size, o, none⟩) (by simp)
  have hs := h.size
  simp at hs
  have a0 := hc 0
  have a1 := hc 1
  have a2 := hc 2
  have a3 := hc 3
  simp at a0 a1 a2 a3
  exact ⟨a0, a1, a2, a3, by omega⟩
/-- A new tree is answered. -/
theorem radd_fin {S : Nat → Prop} {w w8 : World} {A : Tab} {X : Sh} {s : TS} {g cap : Nat} (hS : ∀ b, S b → b < w.heap.size)
    (hrt : RT (fun x => S x ∨ x = w.heap.size + 1) w8 (zA A) (.slice s.p s.n s.c) (.slice s.q s.m s.d) (.slice s.r s.l s.e))
    (hnd : Nds w8 (.slice (some ⟨g, 0, none⟩) (nl A X).length cap) (nl A X)) (hg : w.heap.size + 1 < g) (h0 : 0 < (nl A X).length) (h64 : (nl A X).length ≤ 64)
    (hb : Below w.heap.size w w8) (r : Value) (n : Int) (u0 u1 u2 u3 u4 : Value) :
    RPost S w A X r n (.returned (.tuple #[rtv A.kind s g cap (nl A X).length, r, .int .i64 n])) (((((w8.setCell ⟨w.heap.size + 1, 0, none⟩ u0).setCell ⟨w.heap.size + 1, 1, none⟩ u1).setCell ⟨w.heap.size + 1, 2, none⟩ u2).setCell ⟨w.heap.size + 1, 3, none⟩ u3).setCell ⟨w.heap.size + 1, 4, none⟩ u4) := by
  have hk := keeps5 w8 (w.heap.size + 1) u0 u1 u2 u3 u4
  refine ⟨s, g, cap, rfl, ⟨(hrt.keeps (hk.mono fun b e => .inr e)).mono (fun b _ k => .inl k), own_keep hnd hk (fun b e k => ?_), fun k => ?_, h0, h64⟩, below_keeps hb hk (fun b e => by omega)⟩
  · simp [Value.ownBlock] at e
    omega
  · have := hS g k
    omega

section
variable {S : Nat → Prop} {A : Tab} {X : Sh} {s : TS} {g cap : Nat}
set_option maxHeartbeats 1000000 in
set_option maxRecDepth 100000 in
theorem raddT_full (hR : Rel A X) (w : World) (h : RS S w A X s g cap) (p : Nat) (hp : X.t p = true) (hd : X.d p < 8) (hf : A.free = none) :
    Calls Tryd.prog 7 #[rtv A.kind s g cap (nl A X).length, .int .i64 (A.hd p)] w (RPost S w A X (.int .i64 0) 30) := by
  have hb0 : ∀ o o', Below w.heap.size w ((w.alloc o).alloc o') := fun o o' => ((Below.refl w.heap.size w).alloc (Nat.le_refl _) o).alloc (by simp) o'
  obtain ⟨j, _, hj⟩ := place_of hR.tree hp
  have HP := Lib.hid (fun w1 (hb : Below w.heap.size w w1) => rplace_yes S A.kind s g cap _ w1 (h.rd.below hb) (A.hd p) j (nl_first hR hj))
  obtain ⟨hjl, hje⟩ := nl_at (A := A) hj
  have HC := Lib.hid (show ∀ w1, Below w.heap.size w w1 → w1.cell? ⟨g, j * 2 + 1, none⟩ = some (.int .i64 (X.d p : Nat)) from fun w1 hb => by
    have := ((h.rd.below hb).at j hjl).2
    rw [hje] at this
    exact this)
  have hj0 : (0 : Int) ≤ (j : Int) := by omega
  have hj1 : (j : Int) < ((nl A X).length : Int) := by omega
  have hj2 : decide ((j : Int) < 0) = false := decide_eq_false (by omega)
  have HS := Lib.hid h
  have HLL := Lib.hid (show (nl A X).length = (nl A X).length from rfl)
  have HAD := Lib.hid (fun w1 (hb : Below w.heap.size w w1) => radd_none S (zA A) (zA_good hR) 0 hf _ _ _ w1 (h.rt.below hb))
  obtain ⟨n, hn⟩ : ∃ n, n = X.d p := ⟨_, rfl⟩
  rw [← hn] at HC hd
  have hw1 : IntKind.i64.wrap ((n : Int) + 1) = (n : Int) + 1 := IntWalk.i64_in _ (by omega)
  have hd8 : decide ((8 : Int) < (n : Int) + 1) = false := decide_eq_false (by omega)
  obtain ⟨L, hL⟩ : ∃ L, L = nl A X := ⟨_, rfl⟩
  rw [← hL] at HP hj1 ⊢
  have HLE := Lib.hid hL
  obtain ⟨k0, hk0⟩ : ∃ k0, k0 = A.kind := ⟨_, rfl⟩
  rw [← hk0] at HP ⊢
  have HKE := Lib.hid hk0
  have hkz : (zA A).kind = k0 := by rw [hk0]; rfl
  rw [hkz] at HAD
  clear h hR hp hd hf hkz hn hj hjl hje hL HLL hk0
  generalize A.hd p = y at *
  go_enter Tryd.func7, Tryd.ntmps7
  go_wp2_with fail
  refine (HP.out _ (hb0 _ _)).mono ?_
  rintro e w1 ⟨rfl, hb1⟩
  obtain ⟨d0, d1, d2, d3, d4, z0, z1, z2, z3, z4, zf, zl⟩ := ten_of hb1
  have HB1 := Lib.hid (bnext (hb0 _ _) hb1)
  clear hb0
  have cj := HC.out w1 HB1.out
  have HTEN := Lib.hid (show ∀ W, Below w1.heap.size w1 W → Ten w W k0 s g cap L.length from fun W hb => (ten_of hb1).below hb)
  clear hb1
  go_wp2_with fail
  refine (HAD.out w1 HB1.out).mono ?_
  rintro e w2 ⟨gs2, ts2, ls2, rfl, hrt2, hb2⟩
  obtain ⟨p2, cp2, q2, cq2, r2, cr2, e1, e2, e3⟩ := hrt2.shapes
  subst e1 e2 e3
  have hTn := HTEN.out w2 hb2
  have HB2 := Lib.hid (bnext HB1.out hb2)
  have HB12 := Lib.hid hb2
  have HR2 := Lib.hid hrt2
  clear d0 d1 d2 d3 d4 z0 z1 z2 z3 z4 zf zl hrt2 hb2 cj
  obtain ⟨d0, d1, d2, d3, d4, z0, z1, z2, z3, z4, zf, zl⟩ := hTn
  have zl2 : w.heap.size < w2.heap.size := by omega
  go_upto_region 8 with fail
  have HT3 := Lib.hid (show ∀ W, Below (w2.alloc (.cells #[.int .i64 k0, .slice p2 (zA A).gens.length cp2, .slice q2 (zA A).taken.length cq2, .slice r2 (zA A).list.length cr2] 28)).heap.size (w2.alloc (.cells #[.int .i64 k0, .slice p2 (zA A).gens.length cp2, .slice q2 (zA A).taken.length cq2, .slice r2 (zA A).list.length cr2] 28)) W → Ten w W k0 s g cap L.length ∧ Box4 w2.heap.size W k0 (.slice p2 (zA A).gens.length cp2) (.slice q2 (zA A).taken.length cq2) (.slice r2 (zA A).list.length cr2) from fun W hb =>
    ⟨HTEN.out W (bnext (below_alloc HB12.out _) hb), box4_of hb⟩)
  have HB3 := Lib.hid (below_alloc HB2.out (.cells #[.int .i64 k0, .slice p2 (zA A).gens.length cp2, .slice q2 (zA A).taken.length cq2, .slice r2 (zA A).list.length cr2] 28))
  have HR3 := Lib.hid (HR2.out.below (show Below w2.heap.size w2 (w2.alloc (.cells #[.int .i64 k0, .slice p2 (zA A).gens.length cp2, .slice q2 (zA A).taken.length cq2, .slice r2 (zA A).list.length cr2] 28)) from (Below.refl _ _).alloc (Nat.le_refl _) _))
  clear d0 d1 d2 d3 d4 z0 z1 z2 z3 z4 zf zl zl2
  generalize (w2.alloc (.cells #[.int .i64 k0, .slice p2 (zA A).gens.length cp2, .slice q2 (zA A).taken.length cq2, .slice r2 (zA A).list.length cr2] 28)) = w3 at *
  generalize w2.heap.size = B2 at *
  have hTn := (HT3.out w3 (Below.refl _ _)).1
  obtain ⟨d0, d1, d2, d3, d4, z0, z1, z2, z3, z4, zf, zl⟩ := hTn
  go_wp2_with fail
  refine bodyPost_ret (v := .tuple #[rtv k0 s g cap L.length, .int .i64 0, .int .i64 30]) ?r1 rfl ?_
  case r1 => simp [results, Tryd.results7, go_sem, z0, z1, z2, z3, z4]
  have := rpost_same HS.out HB3.out (.int .i64 0) 30
  rw [← HLE.out, ← HKE.out] at this
  exact this _ _ _ _ _
end
end Go.Proofs.YtlcdbblbepndoaaDoor
