/- The document's own tree: Parent, Depth, Within, All, Kids; no condition but those that each row names. -/
import Derived.Test.YtlcdbblbepndoaaDoorVRefA
import Derived.Test.YtlcdbblbepndoaaDoorVWholeA
namespace Go.Proofs.YtlcdbblbepndoaaDoor
open Go.RowKit Tr

/-- The document's nodes of a tree. -/
def nl (A : Tab) (X : Sh) : List (Int × Int) := (X.pt 0).map fun j => (A.hd j, (X.d j : Int))
theorem nl_len (A : Tab) (X : Sh) : (nl A X).length = (X.pt 0).length := by simp [nl]
theorem nl_at {A : Tab} {X : Sh} {i j : Nat} (h : (X.pt 0)[j]? = some i) : ∃ h : j < (nl A X).length, (nl A X)[j] = (A.hd i, (X.d i : Int)) := by
  obtain ⟨h1, h2⟩ := List.getElem?_eq_some_iff.1 h
  refine ⟨by rw [nl_len]; exact h1, ?_⟩
  simp [nl, h2]
theorem nl_inv {A : Tab} {X : Sh} {j : Nat} (h : j < (nl A X).length) : ∃ i, (X.pt 0)[j]? = some i ∧ (nl A X)[j] = (A.hd i, (X.d i : Int)) := by
  rw [nl_len] at h
  obtain ⟨_, e⟩ := nl_at (A := A) (List.getElem?_eq_getElem h)
  exact ⟨_, List.getElem?_eq_getElem h, e⟩
theorem nl_first {A : Tab} {X : Sh} (hR : Rel A X) {i j : Nat} (h : (X.pt 0)[j]? = some i) : FirstAt (nl A X) (A.hd i) j := by
  obtain ⟨h1, h2⟩ := nl_at (A := A) h
  refine ⟨h1, by rw [h2], fun m hm hmj e => ?_⟩
  obtain ⟨q, hq, e2⟩ := nl_inv hm
  rw [e2] at e
  have hit := (pt_all hR.tree).1 (List.mem_of_getElem? h)
  have hqt := (pt_all hR.tree).1 (List.mem_of_getElem? hq)
  have := hR.inj hqt hit e
  subst this
  have := idx_uniq (pt_nodup hR.tree 0 hR.tree.t0) h hq
  omega
theorem nl_none {A : Tab} {X : Sh} (hR : Rel A X) {x : Int} (h : A.find x = none) : ∀ e ∈ nl A X, e.1 ≠ x := by
  intro e he hx
  obtain ⟨i, hi, rfl⟩ := List.mem_map.1 he
  simp only at hx
  have := hR.find ((pt_all hR.tree).1 hi)
  rw [hx, h] at this
  cases this
/-- Where a part ends. -/
theorem nl_end {A : Tab} {X : Sh} (hR : Rel A X) {i j : Nat} (h : (X.pt 0)[j]? = some i) :
    (∃ h1 : j < (nl A X).length, (∀ m (h2 : m < (nl A X).length), j < m → m < j + (X.pt i).length → (nl A X)[j].2 < (nl A X)[m].2) ∧ ∀ (h2 : j + (X.pt i).length < (nl A X).length), (nl A X)[j + (X.pt i).length].2 ≤ (nl A X)[j].2) ∧ j < j + (X.pt i).length ∧ j + (X.pt i).length ≤ (nl A X).length := by
  have hit := (pt_all hR.tree).1 (List.mem_of_getElem? h)
  obtain ⟨pre, post, _, _, h3, h4, h5⟩ := place_end hR.tree hit h
  obtain ⟨h1, e1⟩ := nl_at (A := A) h
  have hp : 0 < (X.pt i).length := by rw [pt_eq hR.tree hit]; simp
  refine ⟨⟨h1, fun m hm hjm hme => ?_, fun h2 => ?_⟩, by omega, by rw [nl_len]; exact h5⟩
  · obtain ⟨q, hq, e2⟩ := nl_inv hm
    rw [e1, e2]
    have := h3 m q hjm hme hq
    simp only; omega
  · obtain ⟨q, hq, e2⟩ := nl_inv h2
    rw [e1, e2]
    have := h4 q hq
    simp only; omega
theorem nl_up {A : Tab} {X : Sh} (hR : Rel A X) {i j : Nat} (h : (X.pt 0)[j]? = some i) (h0 : i ≠ 0) :
    ∃ q, q < j ∧ (X.pt 0)[q]? = some (X.u i) ∧ (∃ h1 : j < (nl A X).length, (∀ (h2 : q < (nl A X).length), (nl A X)[q].2 < (nl A X)[j].2) ∧ ∀ m (h2 : m < (nl A X).length), q < m → m < j → (nl A X)[j].2 ≤ (nl A X)[m].2) := by
  have hit := (pt_all hR.tree).1 (List.mem_of_getElem? h)
  obtain ⟨q, h1, h2, h3⟩ := place_up hR.tree hit h0 h
  obtain ⟨h4, e1⟩ := nl_at (A := A) h
  obtain ⟨h5, e2⟩ := nl_at (A := A) h2
  refine ⟨q, h1, h2, h4, fun _ => ?_, fun m hm hqm hmj => ?_⟩
  · rw [e1, e2]
    have := (hR.tree.up i hit h0).2
    simp only; omega
  · obtain ⟨p, hp, e3⟩ := nl_inv hm
    rw [e1, e3]
    have := h3 m p hqm hmj hp
    simp only; omega
theorem at_zero {A : Tab} {X : Sh} (hR : Rel A X) {i j : Nat} (h : (X.pt 0)[j]? = some i) : j = 0 ↔ i = 0 := by
  constructor
  · rintro rfl
    have := (pt_zero hR).symm.trans h
    simpa using this.symm
  · rintro rfl
    exact idx_uniq (pt_nodup hR.tree 0 hR.tree.t0) h (pt_zero hR)

section
variable {S : Nat → Prop} {A : Tab} {X : Sh} {k0 : Int} {s : TS} {g cap : Nat}

/-- The five cells of a tree by value, laid by a call as it begins. -/
theorem five_keep {w w1 : World} {k0 : Int} {s : TS} {g cap n : Nat} {t : TypeId} (hb1 : Below (w.alloc (.cells #[.int .i64 k0, .slice s.p s.n s.c, .slice s.q s.m s.d, .slice s.r s.l s.e, .slice (some ⟨g, 0, none⟩) n cap] t)).heap.size (w.alloc (.cells #[.int .i64 k0, .slice s.p s.n s.c, .slice s.q s.m s.d, .slice s.r s.l s.e, .slice (some ⟨g, 0, none⟩) n cap] t)) w1) :
    ∀ W, Below w1.heap.size w1 W → (W.cell? ⟨w.heap.size, 0, none⟩ = some (.int .i64 k0) ∧ W.cell? ⟨w.heap.size, 1, none⟩ = some (.slice s.p s.n s.c) ∧ W.cell? ⟨w.heap.size, 2, none⟩ = some (.slice s.q s.m s.d) ∧ W.cell? ⟨w.heap.size, 3, none⟩ = some (.slice s.r s.l s.e) ∧ W.cell? ⟨w.heap.size, 4, none⟩ = some (.slice (some ⟨g, 0, none⟩) n cap)) := by
  intro W h
  have hc := fun o => (bnext hb1 h).cell (p := ⟨w.heap.size, o, none⟩) (by simp)
  have d0 := hc 0
  have d1 := hc 1
  have d2 := hc 2
  have d3 := hc 3
  have d4 := hc 4
  simp at d0 d1 d2 d3 d4
  exact ⟨d0, d1, d2, d3, d4⟩
-- Depth
theorem rdepth_no (hR : Rel A X) (w : World) (h : RD S w g cap (nl A X)) (x : Int) (hf : A.find x = none) :
    Calls Tryd.prog 34 #[rtv k0 s g cap (nl A X).length, .int .i64 x] w fun e w' => e = .returned (.tuple #[.int .i64 0, .int .i64 20]) ∧ Below w.heap.size w w' := by
  have HP := Lib.hid (fun w1 (hb : Below w.heap.size w w1) => rplace_no S k0 s g cap _ w1 (h.below hb) x (nl_none hR hf))
  have hb0 : ∀ o, Below w.heap.size w (w.alloc o) := fun o => (Below.refl _ _).alloc (Nat.le_refl _) o
  generalize nl A X = L at *
  clear h hR hf
  go_enter Tryd.func34, Tryd.ntmps34
  go_wp2_with fail
  refine (HP.out _ (hb0 _)).mono ?_
  rintro e w1 ⟨rfl, hb1⟩
  have hb2 := bnext (hb0 _) hb1
  go_wp2_with fail
  go_ret2
  exact ⟨rfl, hb2⟩
theorem rdepth_yes (hR : Rel A X) (w : World) (h : RD S w g cap (nl A X)) (i : Nat) (hi : X.t i = true) :
    Calls Tryd.prog 34 #[rtv k0 s g cap (nl A X).length, .int .i64 (A.hd i)] w fun e w' => e = .returned (.tuple #[.int .i64 (X.d i : Nat), .int .i64 0]) ∧ Below w.heap.size w w' := by
  obtain ⟨j, _, hj⟩ := place_of hR.tree hi
  have HP := Lib.hid (fun w1 (hb : Below w.heap.size w w1) => rplace_yes S k0 s g cap _ w1 (h.below hb) (A.hd i) j (nl_first hR hj))
  have hb0 : ∀ o, Below w.heap.size w (w.alloc o) := fun o => (Below.refl _ _).alloc (Nat.le_refl _) o
  obtain ⟨hjl, hje⟩ := nl_at (A := A) hj
  have HC := Lib.hid (show ∀ w1, Below w.heap.size w w1 → w1.cell? ⟨g, j * 2 + 1, none⟩ = some (.int .i64 (X.d i : Nat)) from fun w1 hb => by
    have := ((h.below hb).at j hjl).2
    rw [hje] at this
    exact this)
  have hj0 : (0 : Int) ≤ (j : Int) := by omega
  have hj1 : (j : Int) < ((nl A X).length : Int) := by omega
  generalize nl A X = L at *
  generalize A.hd i = y at *
  generalize X.d i = n at *
  clear h hR hi hj hje
  go_enter Tryd.func34, Tryd.ntmps34
  go_wp2_with fail
  refine (HP.out _ (hb0 _)).mono ?_
  rintro e w1 ⟨rfl, hb1⟩
  have hb2 := bnext (hb0 _) hb1
  have c4 : w1.cell? ⟨w.heap.size, 4, none⟩ = some (.slice (some ⟨g, 0, none⟩) L.length cap) := (hb1.cell (p := ⟨w.heap.size, 4, none⟩) (by simp)).trans (by simp)
  have cj := HC.out w1 hb2
  go_wp2_with fail
  go_ret2
  exact ⟨rfl, hb2⟩

-- Parent
theorem rparent_no (hR : Rel A X) (w : World) (h : RD S w g cap (nl A X)) (x : Int) (hf : A.find x = none) :
    Calls Tryd.prog 31 #[rtv k0 s g cap (nl A X).length, .int .i64 x] w fun e w' => e = .returned (.tuple #[.int .i64 0, .int .i64 20]) ∧ Below w.heap.size w w' := by
  have HP := Lib.hid (fun w1 (hb : Below w.heap.size w w1) => rplace_no S k0 s g cap _ w1 (h.below hb) x (nl_none hR hf))
  have hb0 : ∀ o, Below w.heap.size w (w.alloc o) := fun o => (Below.refl _ _).alloc (Nat.le_refl _) o
  generalize nl A X = L at *
  clear h hR hf
  go_enter Tryd.func31, Tryd.ntmps31
  go_wp2_with fail
  refine (HP.out _ (hb0 _)).mono ?_
  rintro e w1 ⟨rfl, hb1⟩
  have hb2 := bnext (hb0 _) hb1
  go_wp2_with fail
  go_ret2
  exact ⟨rfl, hb2⟩
theorem rparent_yes (hR : Rel A X) (w : World) (h : RD S w g cap (nl A X)) (i : Nat) (hi : X.t i = true) :
    Calls Tryd.prog 31 #[rtv k0 s g cap (nl A X).length, .int .i64 (A.hd i)] w fun e w' => e = .returned (.tuple #[.int .i64 (getV A (A.hd i)), .int .i64 0]) ∧ Below w.heap.size w w' := by
  obtain ⟨j, _, hj⟩ := place_of hR.tree hi
  have HP := Lib.hid (fun w1 (hb : Below w.heap.size w w1) => rplace_yes S k0 s g cap _ w1 (h.below hb) (A.hd i) j (nl_first hR hj))
  have hb0 : ∀ o, Below w.heap.size w (w.alloc o) := fun o => (Below.refl _ _).alloc (Nat.le_refl _) o
  have hj0 : (0 : Int) ≤ (j : Int) := by omega
  by_cases h0 : i = 0
  · have hjz : ((j : Int) == 0) = true := by rw [beq_iff_eq, (at_zero hR hj).2 h0]; rfl
    have hg0 : getV A (A.hd i) = 0 := by rw [h0]; exact hR.get_0
    rw [hg0]
    generalize nl A X = L at *
    generalize A.hd i = y at *
    clear h hR hi hj hg0
    go_enter Tryd.func31, Tryd.ntmps31
    go_wp2_with fail
    refine (HP.out _ (hb0 _)).mono ?_
    rintro e w1 ⟨rfl, hb1⟩
    have hb2 := bnext (hb0 _) hb1
    go_wp2_with fail
    go_ret2
    exact ⟨rfl, hb2⟩
  · obtain ⟨q, hqj, hq, hj1, hq2, hq3⟩ := nl_up hR hj h0
    have hjz : ((j : Int) == 0) = false := by rw [beq_eq_false_iff_ne]; omega
    have HU := Lib.hid (fun w1 (hb : Below w.heap.size w w1) => rup_ok S k0 s g cap _ w1 (h.below hb) j q hj1 hqj hq2 hq3)
    rw [hR.get_up hi h0]
    obtain ⟨hql, hqe⟩ := nl_at (A := A) hq
    have HC := Lib.hid (show ∀ w1, Below w.heap.size w w1 → w1.cell? ⟨g, q * 2, none⟩ = some (.int .i64 (A.hd (X.u i))) from fun w1 hb => by
      have := ((h.below hb).at q hql).1
      rw [hqe] at this
      exact this)
    have hq0 : (0 : Int) ≤ (q : Int) := by omega
    have hq1 : (q : Int) < ((nl A X).length : Int) := by omega
    generalize nl A X = L at *
    generalize A.hd i = y at *
    generalize A.hd (X.u i) = z at *
    clear h hR hi hj hq hq2 hq3 hqe
    go_enter Tryd.func31, Tryd.ntmps31
    go_wp2_with fail
    refine (HP.out _ (hb0 _)).mono ?_
    rintro e w1 ⟨rfl, hb1⟩
    have hb2 := bnext (hb0 _) hb1
    have HK5 := Lib.hid (five_keep hb1)
    have HKEEP := Lib.hid (show ∀ W, Below w1.heap.size w1 W → (W.cell? ⟨w.heap.size, 0, none⟩ = some (.int .i64 k0) ∧ W.cell? ⟨w.heap.size, 1, none⟩ = some (.slice s.p s.n s.c) ∧ W.cell? ⟨w.heap.size, 2, none⟩ = some (.slice s.q s.m s.d) ∧ W.cell? ⟨w.heap.size, 3, none⟩ = some (.slice s.r s.l s.e) ∧ W.cell? ⟨w.heap.size, 4, none⟩ = some (.slice (some ⟨g, 0, none⟩) L.length cap) ∧ W.cell? ⟨g, q * 2, none⟩ = some (.int .i64 z) ∧ Below w1.heap.size w1 W) from fun W h =>
      ⟨(HK5.out W h).1, (HK5.out W h).2.1, (HK5.out W h).2.2.1, (HK5.out W h).2.2.2.1, (HK5.out W h).2.2.2.2, HC.out W (bnext hb2 h), h⟩)
    obtain ⟨d0, d1, d2, d3, d4⟩ := HK5.out w1 (Below.refl _ _)
    have HUW := Lib.hid (fun W (h : Below w1.heap.size w1 W) => HU.out W (bnext hb2 h))
    clear hb1
    go_wp2_with fail
    go_region_held3 (fun w' => w'.cell? ⟨w.heap.size, 0, none⟩ = some (.int .i64 k0) ∧ w'.cell? ⟨w.heap.size, 1, none⟩ = some (.slice s.p s.n s.c) ∧ w'.cell? ⟨w.heap.size, 2, none⟩ = some (.slice s.q s.m s.d) ∧ w'.cell? ⟨w.heap.size, 3, none⟩ = some (.slice s.r s.l s.e) ∧ w'.cell? ⟨w.heap.size, 4, none⟩ = some (.slice (some ⟨g, 0, none⟩) L.length cap) ∧ w'.cell? ⟨g, q * 2, none⟩ = some (.int .i64 z) ∧ Below w1.heap.size w1 w')
      (first | exact HKEEP.out _ below_drewOne | exact HKEEP.out _ (Below.refl _ _) | (go_split_ands; refine HKEEP.out _ (bnext ?_ hb); first | assumption | exact below_drewOne))
      (first
        | (go_at_call 57; refine (HUW.out _ ?_).mono ?_; (go_split_ands; assumption); rintro e w3 ⟨rfl, hb⟩))
    all_goals
      go_wp2_with fail
      go_ret2
      go_split_ands
      exact ⟨rfl, bnext hb2 (by assumption)⟩
end
end Go.Proofs.YtlcdbblbepndoaaDoor
