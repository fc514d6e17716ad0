/- Plain mathematics of stage 9: a tree of slots, its paths, its parts in order; nothing of the program; no condition but those that each row names. -/
import Derived.Test.YtlcdbblbepndoaaDoorSTab
namespace Go.Proofs.YtlcdbblbepndoaaDoor
open Go.RowKit
namespace Tr

theorem flatMap_same {α β : Type} {l : List α} {f g : α → List β} (h : ∀ x ∈ l, f x = g x) : l.flatMap f = l.flatMap g := by
  induction l with
  | nil => rfl
  | cons a r ih =>
    rw [List.flatMap_cons, List.flatMap_cons, h a (by simp), ih fun x hx => h x (by simp [hx])]
theorem flatMap_nil {α β : Type} {l : List α} {f : α → List β} (h : ∀ x ∈ l, f x = []) : l.flatMap f = [] := by
  induction l with
  | nil => rfl
  | cons a r ih => rw [List.flatMap_cons, h a (by simp), ih fun x hx => h x (by simp [hx])]; rfl
theorem flatMap_one {α : Type} (l : List α) : l.flatMap (fun x => [x]) = l := by
  induction l with
  | nil => rfl
  | cons a r ih => rw [List.flatMap_cons, ih]; rfl

/-- Which nodes there are, by their slots; their parents' slots; their depths. -/
structure Sh where
  t : Nat → Bool
  u : Nat → Nat
  d : Nat → Nat
structure Sh.Good (X : Sh) : Prop where
  t0 : X.t 0 = true
  d0 : X.d 0 = 0
  lt : ∀ i, X.t i = true → i < 64
  up : ∀ i, X.t i = true → i ≠ 0 → X.t (X.u i) = true ∧ X.d i = X.d (X.u i) + 1
  d8 : ∀ i, X.t i = true → X.d i ≤ 8

def Sh.isKid (X : Sh) (p k : Nat) : Bool := X.t k && (decide (k ≠ 0) && decide (X.u k = p))
def Sh.kids (X : Sh) (p : Nat) : List Nat := (List.range 64).filter (X.isKid p)
def Sh.part (X : Sh) : Nat → Nat → List Nat
  | 0, i => [i]
  | f + 1, i => i :: (X.kids i).flatMap (X.part f)
def Sh.pt (X : Sh) (i : Nat) : List Nat := X.part (8 - X.d i) i
/-- The way up. -/
def Sh.way (X : Sh) : Nat → Nat → List Nat
  | 0, i => [i]
  | n + 1, i => i :: X.way n (X.u i)
def Sh.back (X : Sh) (i : Nat) : List Nat := X.way (X.d i) i

theorem isKid_iff (X : Sh) (p k : Nat) : X.isKid p k = true ↔ X.t k = true ∧ k ≠ 0 ∧ X.u k = p := by simp [Sh.isKid]
theorem mem_kids {X : Sh} (h : X.Good) {p k : Nat} : k ∈ X.kids p ↔ X.t k = true ∧ k ≠ 0 ∧ X.u k = p := by
  unfold Sh.kids
  rw [List.mem_filter, isKid_iff, List.mem_range]
  exact ⟨fun x => x.2, fun x => ⟨h.lt k x.1, x⟩⟩
theorem kid_d {X : Sh} (h : X.Good) {p k : Nat} (hk : k ∈ X.kids p) : X.d k = X.d p + 1 := by
  obtain ⟨h1, h2, rfl⟩ := (mem_kids h).1 hk
  exact (h.up k h1 h2).2
theorem kids_nodup (X : Sh) (p : Nat) : (X.kids p).Nodup := List.Pairwise.filter _ List.nodup_range
theorem kids_sorted (X : Sh) (p : Nat) : (X.kids p).Pairwise (· < ·) := List.Pairwise.filter _ List.pairwise_lt_range

theorem pt_eq {X : Sh} (h : X.Good) {i : Nat} (ht : X.t i = true) : X.pt i = i :: (X.kids i).flatMap X.pt := by
  have h8 := h.d8 i ht
  cases hf : 8 - X.d i with
  | zero =>
    have : X.pt i = [i] := by unfold Sh.pt; rw [hf]; rfl
    rw [this, flatMap_nil]
    intro k hk
    have h1 := kid_d h hk
    have h2 := h.d8 k ((mem_kids h).1 hk).1
    omega
  | succ f =>
    have : X.pt i = i :: (X.kids i).flatMap (X.part f) := by unfold Sh.pt; rw [hf]; rfl
    rw [this]
    congr 1
    refine flatMap_same fun k hk => ?_
    have h1 := kid_d h hk
    unfold Sh.pt
    congr 1
    omega

/-- From the leaves up. -/
theorem ind {X : Sh} (h : X.Good) {P : Nat → Prop} (hs : ∀ i, X.t i = true → (∀ k ∈ X.kids i, P k) → P i) : ∀ i, X.t i = true → P i := by
  have : ∀ f i, X.t i = true → 8 - X.d i ≤ f → P i := by
    intro f
    induction f with
    | zero =>
      intro i ht hf
      refine hs i ht fun k hk => ?_
      have h1 := kid_d h hk
      have h2 := h.d8 k ((mem_kids h).1 hk).1
      omega
    | succ f ih =>
      intro i ht hf
      refine hs i ht fun k hk => ih k ((mem_kids h).1 hk).1 ?_
      have h1 := kid_d h hk
      omega
  exact fun i ht => this _ i ht (Nat.le_refl _)
/-- From the root down. -/
theorem indUp {X : Sh} (h : X.Good) {P : Nat → Prop} (h0 : P 0) (hs : ∀ i, X.t i = true → i ≠ 0 → P (X.u i) → P i) : ∀ i, X.t i = true → P i := by
  have : ∀ n i, X.t i = true → X.d i ≤ n → P i := by
    intro n
    induction n with
    | zero =>
      intro i ht hd
      by_cases e : i = 0
      · subst e; exact h0
      · have := (h.up i ht e).2; omega
    | succ n ih =>
      intro i ht hd
      by_cases e : i = 0
      · subst e; exact h0
      · obtain ⟨h1, h2⟩ := h.up i ht e
        exact hs i ht e (ih _ h1 (by omega))
  exact fun i ht => this _ i ht (Nat.le_refl _)

theorem back_0 {X : Sh} (h : X.Good) : X.back 0 = [0] := by unfold Sh.back; rw [h.d0]; rfl
theorem back_up {X : Sh} (h : X.Good) {i : Nat} (ht : X.t i = true) (hi : i ≠ 0) : X.back i = i :: X.back (X.u i) := by
  unfold Sh.back
  rw [(h.up i ht hi).2]
  rfl
theorem d_pos {X : Sh} (h : X.Good) {i : Nat} (ht : X.t i = true) (hi : i ≠ 0) : 0 < X.d i := by have := (h.up i ht hi).2; omega
theorem d_zero {X : Sh} (h : X.Good) {i : Nat} (ht : X.t i = true) (hd : X.d i = 0) : i = 0 := by
  by_cases e : i = 0
  · exact e
  · have := d_pos h ht e; omega
theorem back_len (X : Sh) (i : Nat) : (X.back i).length = X.d i + 1 := by
  unfold Sh.back
  generalize X.d i = n
  induction n generalizing i with
  | zero => rfl
  | succ n ih => simp [Sh.way, ih]
theorem back_self (X : Sh) (i : Nat) : i ∈ X.back i := by
  unfold Sh.back
  cases X.d i <;> simp [Sh.way]
theorem back_mem {X : Sh} (h : X.Good) : ∀ x, X.t x = true → ∀ y ∈ X.back x, X.t y = true ∧ X.d y ≤ X.d x := by
  refine indUp h ?_ ?_
  · intro y hy
    rw [back_0 h] at hy
    simp at hy
    subst hy
    exact ⟨h.t0, Nat.le_refl _⟩
  · intro i ht hi ih y hy
    rw [back_up h ht hi, List.mem_cons] at hy
    rcases hy with rfl | hy
    · exact ⟨ht, Nat.le_refl _⟩
    · obtain ⟨h1, h2⟩ := ih y hy
      have := (h.up i ht hi).2
      exact ⟨h1, by omega⟩
theorem back_root {X : Sh} (h : X.Good) : ∀ x, X.t x = true → 0 ∈ X.back x := by
  refine indUp h (back_self X 0) ?_
  intro i ht hi ih
  rw [back_up h ht hi]
  exact List.mem_cons_of_mem _ ih
theorem back_inj {X : Sh} (h : X.Good) : ∀ x, X.t x = true → ∀ a ∈ X.back x, ∀ b ∈ X.back x, X.d a = X.d b → a = b := by
  refine indUp h ?_ ?_
  · intro a ha b hb _
    rw [back_0 h] at ha hb
    simp at ha hb
    rw [ha, hb]
  · intro i ht hi ih a ha b hb hd
    have h1 := h.up i ht hi
    rw [back_up h ht hi, List.mem_cons] at ha hb
    rcases ha with rfl | ha
    · rcases hb with rfl | hb
      · rfl
      · have := (back_mem h _ h1.1 b hb).2; omega
    · rcases hb with rfl | hb
      · have := (back_mem h _ h1.1 a ha).2; omega
      · exact ih a ha b hb hd
theorem back_step {X : Sh} (h : X.Good) : ∀ x, X.t x = true → ∀ k ∈ X.back x, k ≠ 0 → X.u k ∈ X.back x := by
  refine indUp h ?_ ?_
  · intro k hk hk0
    rw [back_0 h] at hk
    simp at hk
    exact absurd hk hk0
  · intro i ht hi ih k hk hk0
    have h1 := h.up i ht hi
    rw [back_up h ht hi] at hk ⊢
    rcases List.mem_cons.1 hk with rfl | hk
    · exact List.mem_cons_of_mem _ (back_self X _)
    · exact List.mem_cons_of_mem _ (ih k hk hk0)
/-- What is above one that is above. -/
theorem back_sub {X : Sh} (h : X.Good) : ∀ x, X.t x = true → ∀ k ∈ X.back x, ∀ y ∈ X.back k, y ∈ X.back x := by
  refine indUp h ?_ ?_
  · intro k hk y hy
    rw [back_0 h] at hk
    simp at hk
    subst hk
    exact hy
  · intro i ht hi ih k hk y hy
    rw [back_up h ht hi, List.mem_cons] at hk
    rcases hk with rfl | hk
    · exact hy
    · rw [back_up h ht hi]
      exact List.mem_cons_of_mem _ (ih k hk y hy)

theorem pt_self {X : Sh} (i : Nat) : i ∈ X.pt i := by
  unfold Sh.pt
  cases 8 - X.d i <;> simp [Sh.part]
theorem pt_back {X : Sh} (h : X.Good) : ∀ i, X.t i = true → ∀ x ∈ X.pt i, X.t x = true ∧ i ∈ X.back x := by
  refine ind h ?_
  intro i ht ih x hx
  rw [pt_eq h ht, List.mem_cons, List.mem_flatMap] at hx
  rcases hx with rfl | ⟨k, hk, hx⟩
  · exact ⟨ht, back_self X _⟩
  · obtain ⟨h1, h2⟩ := ih k hk x hx
    obtain ⟨_, h4, h5⟩ := (mem_kids h).1 hk
    refine ⟨h1, ?_⟩
    have := back_step h x h1 k h2 h4
    rw [h5] at this
    exact this
theorem pt_kid {X : Sh} (h : X.Good) : ∀ i, X.t i = true → ∀ y ∈ X.pt i, ∀ x ∈ X.kids y, x ∈ X.pt i := by
  refine ind h ?_
  intro i ht ih y hy x hx
  rw [pt_eq h ht, List.mem_cons, List.mem_flatMap] at hy ⊢
  rcases hy with rfl | ⟨k, hk, hy⟩
  · exact .inr ⟨x, hx, pt_self x⟩
  · exact .inr ⟨k, hk, ih k hk y hy x hx⟩
theorem back_pt {X : Sh} (h : X.Good) : ∀ x, X.t x = true → ∀ i ∈ X.back x, x ∈ X.pt i := by
  refine indUp h ?_ ?_
  · intro i hi
    rw [back_0 h] at hi
    simp at hi
    subst hi
    exact pt_self 0
  · intro x ht hx ih i hi
    rw [back_up h ht hx, List.mem_cons] at hi
    rcases hi with rfl | hi
    · exact pt_self _
    · have h1 := h.up x ht hx
      exact pt_kid h i ((back_mem h _ h1.1 i hi).1) _ (ih i hi) x ((mem_kids h).2 ⟨ht, hx, rfl⟩)
theorem pt_iff {X : Sh} (h : X.Good) {i : Nat} (hi : X.t i = true) {x : Nat} : x ∈ X.pt i ↔ X.t x = true ∧ i ∈ X.back x :=
  ⟨fun hx => pt_back h i hi x hx, fun hx => back_pt h x hx.1 i hx.2⟩
theorem pt_all {X : Sh} (h : X.Good) {x : Nat} : x ∈ X.pt 0 ↔ X.t x = true :=
  ⟨fun hx => (pt_back h 0 h.t0 x hx).1, fun hx => back_pt h x hx 0 (back_root h x hx)⟩
theorem pt_d {X : Sh} (h : X.Good) {i : Nat} (hi : X.t i = true) {x : Nat} (hx : x ∈ X.pt i) : X.d i ≤ X.d x := by
  obtain ⟨h1, h2⟩ := pt_back h i hi x hx
  exact (back_mem h x h1 i h2).2
theorem pt_deep {X : Sh} (h : X.Good) {i : Nat} (_hi : X.t i = true) {x : Nat} (hx : x ∈ (X.kids i).flatMap X.pt) : X.d i < X.d x := by
  obtain ⟨k, hk, hx⟩ := List.mem_flatMap.1 hx
  have h1 := kid_d h hk
  have h2 := pt_d h ((mem_kids h).1 hk).1 hx
  omega
theorem pt_nodup {X : Sh} (h : X.Good) : ∀ i, X.t i = true → (X.pt i).Nodup := by
  refine ind h ?_
  intro i ht ih
  rw [pt_eq h ht, List.nodup_cons]
  refine ⟨fun hx => by have := pt_deep h ht hx; omega, ?_⟩
  have hk := fun k (hk : k ∈ X.kids i) => (mem_kids h).1 hk
  have hd := fun k (hk : k ∈ X.kids i) => kid_d h hk
  have hn := kids_nodup X i
  revert ih hk hd hn
  generalize X.kids i = l
  intro ih hk hd hn
  induction l with
  | nil => simp
  | cons a r ihl =>
    rw [List.flatMap_cons, List.nodup_append]
    obtain ⟨hna, hnr⟩ := List.nodup_cons.1 hn
    refine ⟨ih a (by simp), ihl (fun k hk => ih k (by simp [hk])) (fun k hk' => hk k (by simp [hk'])) (fun k hk' => hd k (by simp [hk'])) hnr, ?_⟩
    intro x hx y hy e
    subst e
    obtain ⟨b, hb, hxb⟩ := List.mem_flatMap.1 hy
    obtain ⟨h1, h2⟩ := pt_back h a (hk a (by simp)).1 x hx
    obtain ⟨_, h4⟩ := pt_back h b (hk b (by simp [hb])).1 x hxb
    have := back_inj h x h1 a h2 b h4 (by rw [hd a (by simp), hd b (by simp [hb])])
    subst this
    exact hna hb

/-- A node's children in two, one of them between. -/
theorem kids_split {X : Sh} {i k : Nat} (hk : k ∈ X.kids i) : ∃ K1 K2, X.kids i = K1 ++ k :: K2 := List.append_of_mem hk

/-- Where a part stands within a greater one. -/
theorem pt_within {X : Sh} (h : X.Good) : ∀ x, X.t x = true → ∀ i ∈ X.back x, ∃ pre post, X.pt i = pre ++ X.pt x ++ post ∧ (∀ y ∈ post.head?, X.d y ≤ X.d x) := by
  refine indUp h ?_ ?_
  · intro i hi
    rw [back_0 h] at hi
    simp at hi
    subst hi
    exact ⟨[], [], by simp, by simp⟩
  · intro x ht hx ih i hi
    rw [back_up h ht hx, List.mem_cons] at hi
    rcases hi with rfl | hi
    · exact ⟨[], [], by simp, by simp⟩
    · obtain ⟨pre, post, e, hp⟩ := ih i hi
      have h1 := h.up x ht hx
      obtain ⟨K1, K2, ek⟩ := kids_split ((mem_kids h).2 ⟨ht, hx, rfl⟩)
      have e2 := pt_eq h h1.1
      rw [ek, List.flatMap_append, List.flatMap_cons] at e2
      refine ⟨pre ++ X.u x :: K1.flatMap X.pt, K2.flatMap X.pt ++ post, by rw [e, e2]; simp, ?_⟩
      intro y hy
      cases K2 with
      | nil =>
        simp only [List.flatMap_nil, List.nil_append] at hy
        have := hp y hy
        omega
      | cons b r =>
        have hb : b ∈ X.kids (X.u x) := by rw [ek]; simp
        have hbd := kid_d h hb
        rw [List.flatMap_cons, pt_eq h ((mem_kids h).1 hb).1] at hy
        simp only [List.cons_append, List.head?_cons, Option.mem_def, Option.some.injEq] at hy
        subst hy
        omega

/-- The whole, with a node's part in it, and its parent ahead. -/
theorem pt_place {X : Sh} (h : X.Good) {x : Nat} (ht : X.t x = true) : ∃ pre post, X.pt 0 = pre ++ X.pt x ++ post ∧ (∀ y ∈ post.head?, X.d y ≤ X.d x) := pt_within h x ht 0 (back_root h x ht)
theorem pt_above {X : Sh} (h : X.Good) {x : Nat} (ht : X.t x = true) (hx : x ≠ 0) : ∃ pre A post, X.pt 0 = pre ++ X.u x :: A ++ X.pt x ++ post ∧ (∀ y ∈ A, X.d x ≤ X.d y) := by
  have h1 := h.up x ht hx
  obtain ⟨pre, post, e, _⟩ := pt_place h h1.1
  obtain ⟨K1, K2, ek⟩ := kids_split ((mem_kids h).2 ⟨ht, hx, rfl⟩)
  have e2 := pt_eq h h1.1
  rw [ek, List.flatMap_append, List.flatMap_cons] at e2
  refine ⟨pre, K1.flatMap X.pt, K2.flatMap X.pt ++ post, by rw [e, e2]; simp, ?_⟩
  intro y hy
  have : y ∈ (X.kids (X.u x)).flatMap X.pt := by
    rw [ek, List.flatMap_append]; simp only [List.mem_append]; exact .inl hy
  have := pt_deep h h1.1 this
  omega

/-- Places are told by what stands there. -/
theorem idx_uniq {l : List Nat} (hn : l.Nodup) {i j : Nat} {x : Nat} (hi : l[i]? = some x) (hj : l[j]? = some x) : i = j := by
  obtain ⟨h1, e1⟩ := List.getElem?_eq_some_iff.1 hi
  obtain ⟨h2, e2⟩ := List.getElem?_eq_some_iff.1 hj
  exact (List.getElem_inj hn).1 (e1.trans e2.symm)
theorem place_pre {X : Sh} (h : X.Good) {x j : Nat} {pre post : List Nat} (e : X.pt 0 = pre ++ X.pt x ++ post) (hx : X.t x = true) (hj : (X.pt 0)[j]? = some x) : j = pre.length := by
  refine idx_uniq (pt_nodup h 0 h.t0) hj ?_
  rw [e, pt_eq h hx]
  simp
/-- A part is what lies behind its node as far as it is deeper. -/
theorem place_end {X : Sh} (h : X.Good) {x j : Nat} (hx : X.t x = true) (hj : (X.pt 0)[j]? = some x) :
    ∃ pre post, X.pt 0 = pre ++ X.pt x ++ post ∧ j = pre.length ∧ (∀ m y, j < m → m < j + (X.pt x).length → (X.pt 0)[m]? = some y → X.d x < X.d y) ∧ (∀ y, (X.pt 0)[j + (X.pt x).length]? = some y → X.d y ≤ X.d x) ∧ j + (X.pt x).length ≤ (X.pt 0).length := by
  obtain ⟨pre, post, e, hp⟩ := pt_place h hx
  have hjp := place_pre h e hx hj
  refine ⟨pre, post, e, hjp, ?_, ?_, by rw [e, hjp]; simp⟩
  · intro m y h1 h2 hm
    rw [e, List.append_assoc, List.getElem?_append_right (by omega), List.getElem?_append_left (by omega), pt_eq h hx] at hm
    obtain ⟨q, hq⟩ : ∃ q, m - pre.length = q + 1 := ⟨m - pre.length - 1, by omega⟩
    rw [hq, List.getElem?_cons_succ] at hm
    exact pt_deep h hx (List.mem_of_getElem? hm)
  · intro y hy
    rw [e, hjp, List.getElem?_append_right (by simp), List.length_append, Nat.sub_self] at hy
    refine hp y ?_
    rw [List.head?_eq_getElem?]
    exact hy
theorem place_up {X : Sh} (h : X.Good) {x j : Nat} (hx : X.t x = true) (hx0 : x ≠ 0) (hj : (X.pt 0)[j]? = some x) :
    ∃ q, q < j ∧ (X.pt 0)[q]? = some (X.u x) ∧ ∀ m y, q < m → m < j → (X.pt 0)[m]? = some y → X.d x ≤ X.d y := by
  obtain ⟨pre, A, post, e, hA⟩ := pt_above h hx hx0
  have e' : X.pt 0 = (pre ++ X.u x :: A) ++ X.pt x ++ post := e
  have hjp := place_pre h e' hx hj
  have hl : (pre ++ X.u x :: A).length = pre.length + A.length + 1 := by simp; omega
  refine ⟨pre.length, by omega, by rw [e]; simp, fun m y h1 h2 hm => hA y ?_⟩
  rw [e', List.append_assoc, List.getElem?_append_left (by omega), List.getElem?_append_right (by omega)] at hm
  obtain ⟨q, hq⟩ : ∃ q, m - pre.length = q + 1 := ⟨m - pre.length - 1, by omega⟩
  rw [hq, List.getElem?_cons_succ] at hm
  exact List.mem_of_getElem? hm
theorem place_of {X : Sh} (h : X.Good) {x : Nat} (hx : X.t x = true) : ∃ j : Nat, j < (X.pt 0).length ∧ (X.pt 0)[j]? = some x := by
  obtain ⟨j, hj, e⟩ := List.getElem_of_mem ((pt_all h).2 hx)
  exact ⟨j, hj, by rw [List.getElem?_eq_getElem hj, e]⟩
theorem place_in {X : Sh} (h : X.Good) {x y j m : Nat} (hx : X.t x = true) (hj : (X.pt 0)[j]? = some x) (hm : (X.pt 0)[m]? = some y) : (j ≤ m ∧ m < j + (X.pt x).length) ↔ y ∈ X.pt x := by
  obtain ⟨pre, post, e, hjp, _⟩ := place_end h hx hj
  constructor
  · rintro ⟨h1, h2⟩
    rw [e, List.append_assoc, List.getElem?_append_right (by omega), List.getElem?_append_left (by omega)] at hm
    exact List.mem_of_getElem? hm
  · intro hy
    obtain ⟨q, hq, eq⟩ := List.getElem_of_mem hy
    have : (X.pt 0)[j + q]? = some y := by
      rw [e, List.append_assoc, List.getElem?_append_right (by omega), List.getElem?_append_left (by omega), hjp, Nat.add_sub_cancel_left, List.getElem?_eq_getElem hq, eq]
    have := idx_uniq (pt_nodup h 0 h.t0) hm this
    omega
theorem few {l : List Nat} {n : Nat} (hn : l.Nodup) (h : ∀ x ∈ l, x < n) : l.length ≤ n := by
  induction n generalizing l with
  | zero =>
    cases l with
    | nil => simp
    | cons a r => have := h a (by simp); omega
  | succ n ih =>
    have h1 := ih (l := l.erase n) (hn.erase n) fun x hx => by
      have h2 := (hn.mem_erase_iff).1 hx
      have := h x h2.2
      have := h2.1
      omega
    by_cases hm : n ∈ l
    · rw [List.length_erase_of_mem hm] at h1; omega
    · rw [List.erase_of_not_mem hm] at h1; omega
theorem pt_len {X : Sh} (h : X.Good) {i : Nat} (hi : X.t i = true) : (X.pt i).length ≤ 64 := by
  exact few (pt_nodup h i hi) fun x hx => h.lt x (pt_back h i hi x hx).1
/-- A node's children are those of its part that are one deeper. -/
theorem kids_of_part {X : Sh} (h : X.Good) (i : Nat) : ((X.kids i).flatMap X.pt).filter (fun x => decide (X.d x = X.d i + 1)) = X.kids i := by
  have hk := fun k (hk : k ∈ X.kids i) => (mem_kids h).1 hk
  have hd := fun k (hk : k ∈ X.kids i) => kid_d h hk
  generalize X.kids i = l at *
  rw [List.filter_flatMap]
  conv => rhs; rw [← flatMap_one l]
  refine flatMap_same fun k hk' => ?_
  have hkt := (hk k hk').1
  rw [pt_eq h hkt, List.filter_cons, if_pos (by simp [hd k hk'])]
  congr 1
  rw [List.filter_eq_nil_iff]
  intro x hx
  have := pt_deep h hkt hx
  have := hd k hk'
  simp
  omega
end Tr
end Go.Proofs.YtlcdbblbepndoaaDoor
namespace Go.Proofs.YtlcdbblbepndoaaDoor
open Go.RowKit
namespace Tr

theorem mem_form {K1 K2 : List Nat} {x y : Nat} (hn : (K1 ++ x :: K2).Nodup) (hy : y ∈ K1 ++ K2) : y ∈ K1 ++ x :: K2 ∧ y ≠ x := by
  refine ⟨by simp only [List.mem_append, List.mem_cons] at hy ⊢; rcases hy with h | h; exact .inl h; exact .inr (.inr h), ?_⟩
  rintro rfl
  rw [List.nodup_append, List.nodup_cons] at hn
  obtain ⟨_, ⟨h2, _⟩, h3⟩ := hn
  rcases List.mem_append.1 hy with h | h
  · exact h3 _ h _ (by simp) rfl
  · exact h2 h

-- a node is added
def Sh.add (X : Sh) (p s : Nat) : Sh := ⟨fun i => decide (i = s) || X.t i, fun i => if i = s then p else X.u i, fun i => if i = s then X.d p + 1 else X.d i⟩
structure CanAdd (X : Sh) (p s : Nat) : Prop where
  tp : X.t p = true
  ts : X.t s = false
  s64 : s < 64
  d8 : X.d p + 1 ≤ 8
theorem CanAdd.ne {X : Sh} {p s : Nat} (c : CanAdd X p s) {i : Nat} (hi : X.t i = true) : i ≠ s := by rintro rfl; rw [c.ts] at hi; cases hi
theorem add_t {X : Sh} {p s i : Nat} (hi : X.t i = true) : (X.add p s).t i = true := by simp [Sh.add, hi]
theorem add_ts (X : Sh) (p s : Nat) : (X.add p s).t s = true := by simp [Sh.add]
theorem add_d {X : Sh} {p s i : Nat} (hi : i ≠ s) : (X.add p s).d i = X.d i := by simp [Sh.add, hi]
theorem add_ds (X : Sh) (p s : Nat) : (X.add p s).d s = X.d p + 1 := by simp [Sh.add]
theorem add_u {X : Sh} {p s i : Nat} (hi : i ≠ s) : (X.add p s).u i = X.u i := by simp [Sh.add, hi]
theorem add_us (X : Sh) (p s : Nat) : (X.add p s).u s = p := by simp [Sh.add]
theorem add_good {X : Sh} (h : X.Good) {p s : Nat} (c : CanAdd X p s) : (X.add p s).Good := by
  have h0 := c.ne h.t0
  have hp := c.ne c.tp
  refine ⟨add_t h.t0, by rw [add_d h0]; exact h.d0, fun i hi => ?_, fun i hi hi0 => ?_, fun i hi => ?_⟩
  · by_cases e : i = s
    · subst e; exact c.s64
    · simp [Sh.add, e] at hi; exact h.lt i hi
  · by_cases e : i = s
    · subst e
      rw [add_us, add_ds, add_d hp]
      exact ⟨add_t c.tp, rfl⟩
    · simp [Sh.add, e] at hi
      obtain ⟨h1, h2⟩ := h.up i hi hi0
      rw [add_u e, add_d e, add_d (c.ne h1)]
      exact ⟨add_t h1, h2⟩
  · by_cases e : i = s
    · subst e; rw [add_ds]; exact c.d8
    · simp [Sh.add, e] at hi; rw [add_d e]; exact h.d8 i hi
theorem add_isKid {X : Sh} {p s q k : Nat} (hk : k ≠ s) : (X.add p s).isKid q k = X.isKid q k := by simp [Sh.isKid, Sh.add, hk]
theorem isKid_not {X : Sh} {q k : Nat} (hk : X.t k = false) : X.isKid q k = false := by simp [Sh.isKid, hk]
theorem add_isKid_s {X : Sh} (h : X.Good) {p s : Nat} (c : CanAdd X p s) (q : Nat) : (X.add p s).isKid q s = decide (p = q) := by
  have h0 : s ≠ 0 := fun e => c.ne h.t0 e.symm
  simp [Sh.isKid, Sh.add, h0]
theorem add_kids {X : Sh} (h : X.Good) {p s : Nat} (c : CanAdd X p s) {q : Nat} (hq : q ≠ p) : (X.add p s).kids q = X.kids q := by
  unfold Sh.kids
  refine List.filter_congr fun k _ => ?_
  by_cases e : k = s
  · subst e; rw [add_isKid_s h c, isKid_not c.ts]; simpa using fun e => hq (Eq.symm e)
  · exact add_isKid e
theorem add_kids_p {X : Sh} (h : X.Good) {p s : Nat} (c : CanAdd X p s) : ∃ K1 K2, X.kids p = K1 ++ K2 ∧ (X.add p s).kids p = K1 ++ s :: K2 ∧ (∀ k ∈ K1, k < s) ∧ (∀ k ∈ K2, s < k) := by
  obtain ⟨l1, l2, e⟩ := List.append_of_mem (List.mem_range.2 c.s64)
  have hp := List.pairwise_lt_range (n := 64)
  rw [e, List.pairwise_append, List.pairwise_cons] at hp
  obtain ⟨_, ⟨h2, _⟩, h3⟩ := hp
  have g1 : ∀ k ∈ l1, k < s := fun k hk => h3 k hk s (by simp)
  have f1 : l1.filter ((X.add p s).isKid p) = l1.filter (X.isKid p) := List.filter_congr fun k hk => add_isKid (by have := g1 k hk; omega)
  have f2 : l2.filter ((X.add p s).isKid p) = l2.filter (X.isKid p) := List.filter_congr fun k hk => add_isKid (by have := h2 k hk; omega)
  refine ⟨l1.filter (X.isKid p), l2.filter (X.isKid p), ?_, ?_, fun k hk => g1 k (List.mem_filter.1 hk).1, fun k hk => h2 k (List.mem_filter.1 hk).1⟩
  · unfold Sh.kids
    rw [e, List.filter_append, List.filter_cons, if_neg (by rw [isKid_not c.ts]; simp)]
  · unfold Sh.kids
    rw [e, List.filter_append, List.filter_cons, if_pos (by rw [add_isKid_s h c]; simp), f1, f2]
theorem add_kids_s {X : Sh} (h : X.Good) {p s : Nat} (c : CanAdd X p s) : (X.add p s).kids s = [] := by
  rw [List.eq_nil_iff_forall_not_mem]
  intro k hk
  obtain ⟨h1, h2, h3⟩ := (mem_kids (add_good h c)).1 hk
  by_cases e : k = s
  · subst e; rw [add_us] at h3; exact c.ne c.tp h3
  · rw [add_u e] at h3
    simp [Sh.add, e] at h1
    exact c.ne (h.up k h1 h2).1 h3
/-- A part in which the new one's parent is not stays. -/
theorem add_pt {X : Sh} (h : X.Good) {p s : Nat} (c : CanAdd X p s) : ∀ i, X.t i = true → p ∉ X.pt i → (X.add p s).pt i = X.pt i := by
  refine ind h ?_
  intro i ht ih hp
  rw [pt_eq h ht] at hp
  simp only [List.mem_cons, List.mem_flatMap, not_or, not_exists, not_and] at hp
  rw [pt_eq (add_good h c) (add_t ht), pt_eq h ht, add_kids h c (fun e => hp.1 e.symm)]
  congr 1
  exact flatMap_same fun k hk => ih k hk (hp.2 k hk)
theorem add_pt_s {X : Sh} (h : X.Good) {p s : Nat} (c : CanAdd X p s) : (X.add p s).pt s = [s] := by
  rw [pt_eq (add_good h c) (add_ts X p s), add_kids_s h c]; rfl
theorem kid_not_above {X : Sh} (h : X.Good) {p k : Nat} (hk : k ∈ X.kids p) : p ∉ X.pt k := by
  intro hx
  have h1 := pt_d h ((mem_kids h).1 hk).1 hx
  have := kid_d h hk
  omega
theorem add_pt_p {X : Sh} (h : X.Good) {p s : Nat} (c : CanAdd X p s) : ∃ K1 K2, X.kids p = K1 ++ K2 ∧ X.pt p = p :: (K1.flatMap X.pt ++ K2.flatMap X.pt) ∧ (X.add p s).pt p = p :: (K1.flatMap X.pt ++ s :: K2.flatMap X.pt) ∧ (∀ k ∈ K1, k < s) ∧ (∀ k ∈ K2, s < k) := by
  obtain ⟨K1, K2, e1, e2, h1, h2⟩ := add_kids_p h c
  have hk : ∀ k ∈ K1 ++ K2, (X.add p s).pt k = X.pt k := fun k hk => by
    rw [← e1] at hk
    exact add_pt h c k ((mem_kids h).1 hk).1 (kid_not_above h hk)
  refine ⟨K1, K2, e1, by rw [pt_eq h c.tp, e1, List.flatMap_append], ?_, h1, h2⟩
  rw [pt_eq (add_good h c) (add_t c.tp), e2, List.flatMap_append, List.flatMap_cons, add_pt_s h c, flatMap_same fun k hk' => hk k (by simp [hk']), flatMap_same (l := K2) fun k hk' => hk k (by simp [hk'])]
  rfl
theorem add_within {X : Sh} (h : X.Good) {p s : Nat} (c : CanAdd X p s) : ∀ x, X.t x = true → x ∈ X.back p → ∀ i ∈ X.back x, ∃ pre post, X.pt i = pre ++ X.pt x ++ post ∧ (X.add p s).pt i = pre ++ (X.add p s).pt x ++ post := by
  refine indUp h ?_ ?_
  · intro _ i hi
    rw [back_0 h] at hi
    simp at hi
    subst hi
    exact ⟨[], [], by simp, by simp⟩
  · intro x ht hx ih hxp i hi
    rw [back_up h ht hx, List.mem_cons] at hi
    rcases hi with rfl | hi
    · exact ⟨[], [], by simp, by simp⟩
    · have h1 := h.up x ht hx
      have hup := back_step h p c.tp x hxp hx
      obtain ⟨pre, post, e, e'⟩ := ih hup i hi
      have hxk := (mem_kids h).2 ⟨ht, hx, rfl⟩
      obtain ⟨K1, K2, ek⟩ := kids_split hxk
      have hn := kids_nodup X (X.u x)
      rw [ek] at hn
      have hne : X.u x ≠ p := by
        intro e
        have := (back_mem h p c.tp x hxp).2
        rw [← e] at this
        omega
      have e2 := pt_eq h h1.1
      rw [ek, List.flatMap_append, List.flatMap_cons] at e2
      have e3 := pt_eq (add_good h c) (add_t (p := p) (s := s) h1.1)
      have hk : ∀ k ∈ K1 ++ K2, (X.add p s).pt k = X.pt k := fun k hk => by
        obtain ⟨m1, m2⟩ := mem_form hn hk
        rw [← ek] at m1
        have m3 := (mem_kids h).1 m1
        refine add_pt h c k m3.1 fun hp => ?_
        have m4 := (pt_back h k m3.1 p hp).2
        exact m2 (back_inj h p c.tp k m4 x hxp (by rw [kid_d h m1, kid_d h hxk]))
      rw [add_kids h c hne, ek, List.flatMap_append, List.flatMap_cons, flatMap_same fun k hk' => hk k (by simp [hk']), flatMap_same (l := K2) fun k hk' => hk k (by simp [hk'])] at e3
      exact ⟨pre ++ X.u x :: K1.flatMap X.pt, K2.flatMap X.pt ++ post, by rw [e, e2]; simp, by rw [e', e3]; simp⟩
/-- The new one's place. -/
theorem add_all {X : Sh} (h : X.Good) {p s j : Nat} (c : CanAdd X p s) (hj : (X.pt 0)[j]? = some p) :
    ∃ q, j < q ∧ q ≤ j + (X.pt p).length ∧ (X.add p s).pt 0 = (X.pt 0).take q ++ s :: (X.pt 0).drop q ∧ (∀ m y, j < m → m < q → (X.pt 0)[m]? = some y → X.d y ≠ X.d p + 1 ∨ y < s) ∧ (q < j + (X.pt p).length → ∃ y, (X.pt 0)[q]? = some y ∧ X.d y = X.d p + 1 ∧ s < y) := by
  obtain ⟨pre, post, e, e'⟩ := add_within h c p c.tp (back_self X p) 0 (back_root h p c.tp)
  obtain ⟨K1, K2, ek, e1, e2, h1, h2⟩ := add_pt_p h c
  have hjp := place_pre h e c.tp hj
  have hK1 : ∀ k ∈ K1, k ∈ X.kids p := fun k hk => by rw [ek]; simp [hk]
  have hK2 : ∀ k ∈ K2, k ∈ X.kids p := fun k hk => by rw [ek]; simp [hk]
  rw [e1] at e
  rw [e2] at e'
  rw [e1]
  generalize hF : K1.flatMap X.pt = F at *
  generalize hG : K2.flatMap X.pt = G at *
  have e3 : X.pt 0 = (pre ++ p :: F) ++ (G ++ post) := by rw [e]; simp
  have hl : (pre ++ p :: F).length = j + 1 + F.length := by simp; omega
  refine ⟨j + 1 + F.length, by omega, by simp; omega, ?_, ?_, ?_⟩
  · rw [e3, ← hl, List.take_left, List.drop_left, e']; simp
  · intro m y m1 m2 hm
    rw [e3, List.getElem?_append_left (by omega), List.getElem?_append_right (by omega)] at hm
    obtain ⟨q, hq⟩ : ∃ q, m - pre.length = q + 1 := ⟨m - pre.length - 1, by omega⟩
    rw [hq, List.getElem?_cons_succ] at hm
    have hy := List.mem_of_getElem? hm
    rw [← hF, List.mem_flatMap] at hy
    obtain ⟨k, hk, hy⟩ := hy
    have hkk := (mem_kids h).1 (hK1 k hk)
    have hd := kid_d h (hK1 k hk)
    rw [pt_eq h hkk.1, List.mem_cons] at hy
    rcases hy with rfl | hy
    · exact .inr (h1 _ hk)
    · have := pt_deep h hkk.1 hy
      exact .inl (by omega)
  · intro hq
    cases K2 with
    | nil =>
      simp only [List.flatMap_nil] at hG
      subst hG
      simp at hq
      omega
    | cons k r =>
      have hkk := (mem_kids h).1 (hK2 k (by simp))
      have hd := kid_d h (hK2 k (by simp))
      refine ⟨k, ?_, hd, h2 k (by simp)⟩
      rw [e3, List.getElem?_append_right (by omega), hl, Nat.sub_self, ← hG, List.flatMap_cons, pt_eq h hkk.1]
      rfl

-- a part is removed
def Sh.rem (X : Sh) (i : Nat) : Sh := ⟨fun x => X.t x && decide (x ∉ X.pt i), X.u, X.d⟩
theorem rem_t {X : Sh} {i x : Nat} : (X.rem i).t x = true ↔ X.t x = true ∧ x ∉ X.pt i := by simp [Sh.rem]
theorem rem_down {X : Sh} (h : X.Good) {i k x : Nat} (hi : X.t i = true) (hk : k ∈ X.pt i) (hx : x ∈ X.pt k) : x ∈ X.pt i := by
  obtain ⟨h1, h2⟩ := pt_back h i hi k hk
  obtain ⟨h3, h4⟩ := pt_back h k h1 x hx
  exact back_pt h x h3 i (back_sub h x h3 k h4 i h2)
theorem rem_good {X : Sh} (h : X.Good) {i : Nat} (hi : X.t i = true) (hi0 : i ≠ 0) : (X.rem i).Good := by
  refine ⟨rem_t.2 ⟨h.t0, fun hx => ?_⟩, h.d0, fun x hx => h.lt x (rem_t.1 hx).1, fun x hx hx0 => ?_, fun x hx => h.d8 x (rem_t.1 hx).1⟩
  · have := pt_d h hi hx
    have := h.d0
    have := d_pos h hi hi0
    omega
  · obtain ⟨h1, h2⟩ := rem_t.1 hx
    obtain ⟨h3, h4⟩ := h.up x h1 hx0
    exact ⟨rem_t.2 ⟨h3, fun hu => h2 (pt_kid h i hi _ hu x ((mem_kids h).2 ⟨h1, hx0, rfl⟩))⟩, h4⟩
theorem flatMap_filter {α β : Type} (l : List α) (p : α → Bool) (f : α → List β) : (l.filter p).flatMap f = l.flatMap fun x => if p x = true then f x else [] := by
  induction l with
  | nil => rfl
  | cons a r ih =>
    rw [List.filter_cons, List.flatMap_cons]
    split
    · rw [List.flatMap_cons, ih]
    · rw [ih]; rfl
theorem rem_kids (X : Sh) (i p : Nat) : (X.rem i).kids p = (X.kids p).filter fun x => decide (x ∉ X.pt i) := by
  unfold Sh.kids
  rw [List.filter_filter]
  refine List.filter_congr fun k _ => ?_
  unfold Sh.isKid Sh.rem
  simp only
  generalize decide (k ∉ X.pt i) = D
  cases X.t k <;> cases D <;> simp
theorem rem_pt {X : Sh} (h : X.Good) {i : Nat} (hi : X.t i = true) (hi0 : i ≠ 0) : ∀ j, X.t j = true → j ∉ X.pt i → (X.rem i).pt j = (X.pt j).filter fun x => decide (x ∉ X.pt i) := by
  refine ind h ?_
  intro j ht ih hj
  rw [pt_eq (rem_good h hi hi0) (rem_t.2 ⟨ht, hj⟩), pt_eq h ht, List.filter_cons, if_pos (by simp [hj]), rem_kids, flatMap_filter, List.filter_flatMap]
  congr 1
  refine flatMap_same fun k hk => ?_
  by_cases e : k ∈ X.pt i
  · rw [if_neg (by simp [e])]
    symm
    rw [List.filter_eq_nil_iff]
    intro x hx
    simp [rem_down h hi e hx]
  · rw [if_pos (by simp [e])]
    exact ih k hk e
theorem rem_filter {X : Sh} (h : X.Good) {i : Nat} (hi : X.t i = true) (hi0 : i ≠ 0) : (X.rem i).pt 0 = (X.pt 0).filter fun x => decide (x ∉ X.pt i) :=
  rem_pt h hi hi0 0 h.t0 (rem_t.1 (rem_good h hi hi0).t0).2
theorem rem_all {X : Sh} (h : X.Good) {i j : Nat} (hi : X.t i = true) (hi0 : i ≠ 0) (hj : (X.pt 0)[j]? = some i) : (X.rem i).pt 0 = (X.pt 0).take j ++ (X.pt 0).drop (j + (X.pt i).length) := by
  obtain ⟨pre, post, e, hjp, _⟩ := place_end h hi hj
  have hn := pt_nodup h 0 h.t0
  rw [rem_filter h hi hi0]
  rw [e] at hn ⊢
  rw [List.nodup_append, List.nodup_append] at hn
  obtain ⟨⟨_, _, h1⟩, _, h2⟩ := hn
  have t1 : (pre ++ X.pt i ++ post).take j = pre := by rw [hjp, List.append_assoc, List.take_left]
  have t2 : (pre ++ X.pt i ++ post).drop (j + (X.pt i).length) = post := by rw [hjp, ← List.length_append, List.drop_left]
  rw [t1, t2, List.filter_append, List.filter_append]
  have f1 : pre.filter (fun x => decide (x ∉ X.pt i)) = pre := List.filter_eq_self.2 fun x hx => by simpa using fun k => h1 x hx x k rfl
  have f2 : (X.pt i).filter (fun x => decide (x ∉ X.pt i)) = [] := List.filter_eq_nil_iff.2 fun x hx => by simp [hx]
  have f3 : post.filter (fun x => decide (x ∉ X.pt i)) = post := List.filter_eq_self.2 fun x hx => by simpa using fun k => h2 x (by simp [k]) x hx rfl
  rw [f1, f2, f3]; simp
/-- What is within one, in the order of all. -/
theorem within_all {X : Sh} (h : X.Good) {i : Nat} (hi : X.t i = true) : (X.pt 0).filter (fun x => decide (x ∈ X.pt i)) = X.pt i := by
  obtain ⟨pre, post, e, _⟩ := pt_place h hi
  have hn := pt_nodup h 0 h.t0
  rw [e] at hn ⊢
  rw [List.nodup_append, List.nodup_append] at hn
  obtain ⟨⟨_, _, h1⟩, _, h2⟩ := hn
  rw [List.filter_append, List.filter_append]
  have f1 : pre.filter (fun x => decide (x ∈ X.pt i)) = [] := List.filter_eq_nil_iff.2 fun x hx => by simpa using fun k => h1 x hx x k rfl
  have f2 : (X.pt i).filter (fun x => decide (x ∈ X.pt i)) = X.pt i := List.filter_eq_self.2 fun x hx => by simp [hx]
  have f3 : post.filter (fun x => decide (x ∈ X.pt i)) = [] := List.filter_eq_nil_iff.2 fun x hx => by simpa using fun k => h2 x (by simp [k]) x hx rfl
  rw [f1, f2, f3]; simp

-- paths
def Sh.path (X : Sh) (i : Nat) : List Nat := (X.back i).reverse
theorem path_len (X : Sh) (i : Nat) : (X.path i).length = X.d i + 1 := by unfold Sh.path; rw [List.length_reverse, back_len]
theorem path_up {X : Sh} (h : X.Good) {i : Nat} (ht : X.t i = true) (hi : i ≠ 0) : X.path i = X.path (X.u i) ++ [i] := by unfold Sh.path; rw [back_up h ht hi]; simp
theorem path_0 {X : Sh} (h : X.Good) : X.path 0 = [0] := by unfold Sh.path; rw [back_0 h]; rfl
theorem path_d {X : Sh} (h : X.Good) : ∀ x, X.t x = true → ∀ m y, (X.path x)[m]? = some y → X.d y = m := by
  refine indUp h ?_ ?_
  · intro m y hm
    rw [path_0 h] at hm
    cases m with
    | zero => simp at hm; subst hm; exact h.d0
    | succ m => simp at hm
  · intro x ht hx ih m y hm
    rw [path_up h ht hx] at hm
    have hl := path_len X (X.u x)
    have h1 := h.up x ht hx
    by_cases e : m < (X.path (X.u x)).length
    · rw [List.getElem?_append_left e] at hm; exact ih m y hm
    · rw [List.getElem?_append_right (by omega)] at hm
      cases hz : m - (X.path (X.u x)).length with
      | zero => rw [hz] at hm; simp at hm; subst hm; omega
      | succ q => rw [hz] at hm; simp at hm
theorem path_get {X : Sh} (h : X.Good) {x : Nat} (hx : X.t x = true) {y : Nat} (hy : y ∈ X.back x) : (X.path x)[X.d y]? = some y := by
  have : y ∈ X.path x := by unfold Sh.path; simpa using hy
  obtain ⟨j, hj, e⟩ := List.getElem_of_mem this
  have h1 : (X.path x)[j]? = some y := by rw [List.getElem?_eq_getElem hj, e]
  rw [path_d h x hx j y h1]
  exact h1
theorem path_mem {X : Sh} {x m y : Nat} (hm : (X.path x)[m]? = some y) : y ∈ X.back x := by
  have := List.mem_of_getElem? hm
  unfold Sh.path at this
  simpa using this
theorem path_at {X : Sh} (h : X.Good) {x : Nat} (hx : X.t x = true) (m : Nat) (hm : m ≤ X.d x) : ∃ y, (X.path x)[m]? = some y ∧ y ∈ X.back x ∧ X.d y = m := by
  have hl : m < (X.path x).length := by rw [path_len]; omega
  refine ⟨(X.path x)[m], List.getElem?_eq_getElem hl, path_mem (List.getElem?_eq_getElem hl), path_d h x hx m _ (List.getElem?_eq_getElem hl)⟩
/-- Who stands on both ways up, as low as can be. -/
structure Low (X : Sh) (a b r : Nat) : Prop where
  ina : r ∈ X.back a
  inb : r ∈ X.back b
  low : ∀ y ∈ X.back a, X.d r < X.d y → y ∉ X.back b
/-- Where two paths part. -/
theorem low_parts {X : Sh} (h : X.Good) {a b r c : Nat} (ha : X.t a = true) (hb : X.t b = true) (hr : Low X a b r) (h0 : 0 < c) (hc : ∀ m, m < c → (X.path a)[m]? = (X.path b)[m]? ∧ m < (X.path a).length)
    (he : c = (X.path a).length ∨ c = (X.path b).length ∨ (X.path a)[c]? ≠ (X.path b)[c]?) : (X.path a)[c - 1]? = some r := by
  have hra := (back_mem h a ha r hr.ina)
  have hrb := (back_mem h b hb r hr.inb)
  have la := path_len X a
  have lb := path_len X b
  have g1 : X.d r < c := by
    rcases Nat.lt_or_ge (X.d r) c with g | g
    · exact g
    · exfalso
      rcases he with e | e | e
      · omega
      · omega
      · obtain ⟨y, y1, y2, y3⟩ := path_at h hra.1 c (by omega)
        have m1 := path_get h ha (back_sub h a ha r hr.ina y y2)
        have m2 := path_get h hb (back_sub h b hb r hr.inb y y2)
        rw [y3] at m1 m2
        exact e (m1.trans m2.symm)
  obtain ⟨h1, h2⟩ := hc (c - 1) (by omega)
  obtain ⟨y, y1, y2, y3⟩ := path_at h ha (c - 1) (by omega)
  have g2 : X.d y ≤ X.d r := by
    rcases Nat.lt_or_ge (X.d r) (X.d y) with g | g
    · exact absurd (path_mem (h1.symm.trans y1)) (hr.low y y2 g)
    · exact g
  have g3 : X.d r = c - 1 := by omega
  have := path_get h ha hr.ina
  rw [g3] at this
  exact this
end Tr
end Go.Proofs.YtlcdbblbepndoaaDoor
