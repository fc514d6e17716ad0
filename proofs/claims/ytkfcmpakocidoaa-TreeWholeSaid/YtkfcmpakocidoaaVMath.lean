/- Plain mathematics of stage 9: a tree of slots, its paths, its parts in order; nothing of the program; no condition but those that each row names. -/
import Derived.Test.YtkfcmpakocidoaaSTab
namespace Go.Proofs.Ytkfcmpakocidoaa
open Go.RowKit
namespace Tr

theorem flatMap_same {α β : Type} {l : List α} {f g : α → List β} (h : ∀ x ∈ l, f x = g x) : l.flatMap f = l.flatMap g := by
  induction l with
  | nil => rfl
  | cons a r ih =>
    rw [List.flatMap_cons, List.flatMap_cons, h a (by simp), ih fun x hx => h x (by simp [hx])]
theorem flatMap_nil {α β : Type} {l : List α} {f : α → List β} (h : ∀ x ∈ l, f x = []) : l.flatMap f = [] := by
  induction l with
  | nil => rfl
  | cons a r ih => rw [List.flatMap_cons, h a (by simp), ih fun x hx => h x (by simp [hx])]; rfl
theorem flatMap_one {α : Type} (l : List α) : l.flatMap (fun x => [x]) = l := by
  induction l with
  | nil => rfl
  | cons a r ih => rw [List.flatMap_cons, ih]; rfl

/-- Which nodes there are, by their slots; their parents' slots; their depths. -/
structure Sh where
  t : Nat → Bool
  u : Nat → Nat
  d : Nat → Nat
structure Sh.Good (X : Sh) : Prop where
  t0 : X.t 0 = true
  d0 : X.d 0 = 0
  lt : ∀ i, X.t i = true → i < 64
  up : ∀ i, X.t i = true → i ≠ 0 → X.t (X.u i) = true ∧ X.d i = X.d (X.u i) + 1
  d8 : ∀ i, X.t i = true → X.d i ≤ 8

def Sh.isKid (X : Sh) (p k : Nat) : Bool := X.t k && (decide (k ≠ 0) && decide (X.u k = p))
def Sh.kids (X : Sh) (p : Nat) : List Nat := (List.range 64).filter (X.isKid p)
def Sh.part (X : Sh) : Nat → Nat → List Nat
  | 0, i => [i]
  | f + 1, i => i :: (X.kids i).flatMap (X.part f)
def Sh.pt (X : Sh) (i : Nat) : List Nat := X.part (8 - X.d i) i
/-- The way up. -/
def Sh.way (X : Sh) : Nat → Nat → List Nat
  | 0, i => [i]
  | n + 1, i => i :: X.way n (X.u i)
def Sh.back (X : Sh) (i : Nat) : List Nat := X.way (X.d i) i

theorem isKid_iff (X : Sh) (p k : Nat) : X.isKid p k = true ↔ X.t k = true ∧ k ≠ 0 ∧ X.u k = p := by simp [Sh.isKid]
theorem mem_kids {X : Sh} (h : X.Good) {p k : Nat} : k ∈ X.kids p ↔ X.t k = true ∧ k ≠ 0 ∧ X.u k = p := by
  unfold Sh.kids
  rw [List.mem_filter, isKid_iff, List.mem_range]
  exact ⟨fun x => x.2, fun x => ⟨h.lt k x.1, x⟩⟩
theorem kid_d {X : Sh} (h : X.Good) {p k : Nat} (hk : k ∈ X.kids p) : X.d k = X.d p + 1 := by
  obtain ⟨h1, h2, rfl⟩ := (mem_kids h).1 hk
  exact (h.up k h1 h2).2
theorem kids_nodup (X : Sh) (p : Nat) : (X.kids p).Nodup := List.Pairwise.filter _ List.nodup_range
theorem kids_sorted (X : Sh) (p : Nat) : (X.kids p).Pairwise (· < ·) := List.Pairwise.filter _ List.pairwise_lt_range

theorem pt_eq {X : Sh} (h : X.Good) {i : Nat} (ht : X.t i = true) : X.pt i = i :: (X.kids i).flatMap X.pt := by
  have h8 := h.d8 i ht
  cases hf : 8 - X.d i with
  | zero =>
    have : X.pt i = [i] := by unfold Sh.pt; rw [hf]; rfl
    rw [this, flatMap_nil]
    intro k hk
    have h1 := kid_d h hk
    have h2 := h.d8 k ((mem_kids h).1 hk).1
    omega
  | succ f =>
    have : X.pt i = i :: (X.kids i).flatMap (X.part f) := by unfold Sh.pt; rw [hf]; rfl
    rw [this]
    congr 1
    refine flatMap_same fun k hk => ?_
    have h1 := kid_d h hk
    unfold Sh.pt
    congr 1
    omega

/-- From the leaves up. -/
theorem ind {X : Sh} (h : X.Good) {P : Nat → Prop} (hs : ∀ i, X.t i = true → (∀ k ∈ X.kids i, P k) → P i) : ∀ i, X.t i = true → P i := by
  have : ∀ f i, X.t i = true → 8 - X.d i ≤ f → P i := by
    intro f
    induction f with
    | zero =>
      intro i ht hf
      refine hs i ht fun k hk => ?_
      have h1 := kid_d h hk
      have h2 := h.d8 k ((mem_kids h).1 hk).1
      omega
    | succ f ih =>
      intro i ht hf
      refine hs i ht fun k hk => ih k ((mem_kids h).1 hk).1 ?_
      have h1 := kid_d h hk
      omega
  exact fun i ht => this _ i ht (Nat.le_refl _)
/-- From the root down. -/
theorem indUp {X : Sh} (h : X.Good) {P : Nat → Prop} (h0 : P 0) (hs : ∀ i, X.t i = true → i ≠ 0 → P (X.u i) → P i) : ∀ i, X.t i = true → P i := by
  have : ∀ n i, X.t i = true → X.d i ≤ n → P i := by
    intro n
    induction n with
    | zero =>
      intro i ht hd
      by_cases e : i = 0
      · subst e; exact h0
      · have := (h.up i ht e).2; omega
    | succ n ih =>
      intro i ht hd
      by_cases e : i = 0
      · subst e; exact h0
      · obtain ⟨h1, h2⟩ := h.up i ht e
        exact hs i ht e (ih _ h1 (by omega))
  exact fun i ht => this _ i ht (Nat.le_refl _)

theorem back_0 {X : Sh} (h : X.Good) : X.back 0 = [0] := by unfold Sh.back; rw [h.d0]; rfl
theorem back_up {X : Sh} (h : X.Good) {i : Nat} (ht : X.t i = true) (hi : i ≠ 0) : X.back i = i :: X.back (X.u i) := by
  unfold Sh.back
  rw [(h.up i ht hi).2]
  rfl
theorem d_pos {X : Sh} (h : X.Good) {i : Nat} (ht : X.t i = true) (hi : i ≠ 0) : 0 < X.d i := by have := (h.up i ht hi).2; omega
theorem d_zero {X : Sh} (h : X.Good) {i : Nat} (ht : X.t i = true) (hd : X.d i = 0) : i = 0 := by
  by_cases e : i = 0
  · exact e
  · have := d_pos h ht e; omega
theorem back_len (X : Sh) (i : Nat) : (X.back i).length = X.d i + 1 := by
  unfold Sh.back
  generalize X.d i = n
  induction n generalizing i with
  | zero => rfl
  | succ n ih => simp [Sh.way, ih]
theorem back_self (X : Sh) (i : Nat) : i ∈ X.back i := by
  unfold Sh.back
  cases X.d i <;> simp [Sh.way]
theorem back_mem {X : Sh} (h : X.Good) : ∀ x, X.t x = true → ∀ y ∈ X.back x, X.t y = true ∧ X.d y ≤ X.d x := by
  refine indUp h ?_ ?_
  · intro y hy
    rw [back_0 h] at hy
    simp at hy
    subst hy
    exact ⟨h.t0, Nat.le_refl _⟩
  · intro i ht hi ih y hy
    rw [back_up h ht hi, List.mem_cons] at hy
    rcases hy with rfl | hy
    · exact ⟨ht, Nat.le_refl _⟩
    · obtain ⟨h1, h2⟩ := ih y hy
      have := (h.up i ht hi).2
      exact ⟨h1, by omega⟩
theorem back_root {X : Sh} (h : X.Good) : ∀ x, X.t x = true → 0 ∈ X.back x := by
  refine indUp h (back_self X 0) ?_
  intro i ht hi ih
  rw [back_up h ht hi]
  exact List.mem_cons_of_mem _ ih
theorem back_inj {X : Sh} (h : X.Good) : ∀ x, X.t x = true → ∀ a ∈ X.back x, ∀ b ∈ X.back x, X.d a = X.d b → a = b := by
  refine indUp h ?_ ?_
  · intro a ha b hb _
    rw [back_0 h] at ha hb
    simp at ha hb
    rw [ha, hb]
  · intro i ht hi ih a ha b hb hd
    have h1 := h.up i ht hi
    rw [back_up h ht hi, List.mem_cons] at ha hb
    rcases ha with rfl | ha
    · rcases hb with rfl | hb
      · rfl
      · have := (back_mem h _ h1.1 b hb).2; omega
    · rcases hb with rfl | hb
      · have := (back_mem h _ h1.1 a ha).2; omega
      · exact ih a ha b hb hd
theorem back_step {X : Sh} (h : X.Good) : ∀ x, X.t x = true → ∀ k ∈ X.back x, k ≠ 0 → X.u k ∈ X.back x := by
  refine indUp h ?_ ?_
  · intro k hk hk0
    rw [back_0 h] at hk
    simp at hk
    exact absurd hk hk0
  · intro i ht hi ih k hk hk0
    have h1 := h.up i ht hi
    rw [back_up h ht hi] at hk ⊢
    rcases List.mem_cons.1 hk with rfl | hk
    · exact List.mem_cons_of_mem _ (back_self X _)
    · exact List.mem_cons_of_mem _ (ih k hk hk0)
/-- What is above one that is above. -/
theorem back_sub {X : Sh} (h : X.Good) : ∀ x, X.t x = true → ∀ k ∈ X.back x, ∀ y ∈ X.back k, y ∈ X.back x := by
  refine indUp h ?_ ?_
  · intro k hk y hy
    rw [back_0 h] at hk
    simp at hk
    subst hk
    exact hy
  · intro i ht hi ih k hk y hy
    rw [back_up h ht hi, List.mem_cons] at hk
    rcases hk with rfl | hk
    · exact hy
    · rw [back_up h ht hi]
      exact List.mem_cons_of_mem _ (ih k hk y hy)

theorem pt_self {X : Sh} (i : Nat) : i ∈ X.pt i := by
  unfold Sh.pt
  cases 8 - X.d i <;> simp [Sh.part]
theorem pt_back {X : Sh} (h : X.Good) : ∀ i, X.t i = true → ∀ x ∈ X.pt i, X.t x = true ∧ i ∈ X.back x := by
  refine ind h ?_
  intro i ht ih x hx
  rw [pt_eq h ht, List.mem_cons, List.mem_flatMap] at hx
  rcases hx with rfl | ⟨k, hk, hx⟩
  · exact ⟨ht, back_self X _⟩
  · obtain ⟨h1, h2⟩ := ih k hk x hx
    obtain ⟨_, h4, h5⟩ := (mem_kids h).1 hk
    refine ⟨h1, ?_⟩
    have := back_step h x h1 k h2 h4
    rw [h5] at this
    exact this
theorem pt_kid {X : Sh} (h : X.Good) : ∀ i, X.t i = true → ∀ y ∈ X.pt i, ∀ x ∈ X.kids y, x ∈ X.pt i := by
  refine ind h ?_
  intro i ht ih y hy x hx
  rw [pt_eq h ht, List.mem_cons, List.mem_flatMap] at hy ⊢
  rcases hy with rfl | ⟨k, hk, hy⟩
  · exact .inr ⟨x, hx, pt_self x⟩
  · exact .inr ⟨k, hk, ih k hk y hy x hx⟩
theorem back_pt {X : Sh} (h : X.Good) : ∀ x, X.t x = true → ∀ i ∈ X.back x, x ∈ X.pt i := by
  refine indUp h ?_ ?_
  · intro i hi
    rw [back_0 h] at hi
    simp at hi
    subst hi
    exact pt_self 0
  · intro x ht hx ih i hi
    rw [back_up h ht hx, List.mem_cons] at hi
    rcases hi with rfl | hi
    · exact pt_self _
    · have h1 := h.up x ht hx
      exact pt_kid h i ((back_mem h _ h1.1 i hi).1) _ (ih i hi) x ((mem_kids h).2 ⟨ht, hx, rfl⟩)
theorem pt_iff {X : Sh} (h : X.Good) {i : Nat} (hi : X.t i = true) {x : Nat} : x ∈ X.pt i ↔ X.t x = true ∧ i ∈ X.back x :=
  ⟨fun hx => pt_back h i hi x hx, fun hx => back_pt h x hx.1 i hx.2⟩
theorem pt_all {X : Sh} (h : X.Good) {x : Nat} : x ∈ X.pt 0 ↔ X.t x = true :=
  ⟨fun hx => (pt_back h 0 h.t0 x hx).1, fun hx => back_pt h x hx 0 (back_root h x hx)⟩
theorem pt_d {X : Sh} (h : X.Good) {i : Nat} (hi : X.t i = true) {x : Nat} (hx : x ∈ X.pt i) : X.d i ≤ X.d x := by
  obtain ⟨h1, h2⟩ := pt_back h i hi x hx
  exact (back_mem h x h1 i h2).2
theorem pt_deep {X : Sh} (h : X.Good) {i : Nat} (_hi : X.t i = true) {x : Nat} (hx : x ∈ (X.kids i).flatMap X.pt) : X.d i < X.d x := by
  obtain ⟨k, hk, hx⟩ := List.mem_flatMap.1 hx
  have h1 := kid_d h hk
  have h2 := pt_d h ((mem_kids h).1 hk).1 hx
  omega
theorem pt_nodup {X : Sh} (h : X.Good) : ∀ i, X.t i = true → (X.pt i).Nodup := by
  refine ind h ?_
  intro i ht ih
  rw [pt_eq h ht, List.nodup_cons]
  refine ⟨fun hx => by have := pt_deep h ht hx; omega, ?_⟩
  have hk := fun k (hk : k ∈ X.kids i) => (mem_kids h).1 hk
  have hd := fun k (hk : k ∈ X.kids i) => kid_d h hk
  have hn := kids_nodup X i
  revert ih hk hd hn
  generalize X.kids i = l
  intro ih hk hd hn
  induction l with
  | nil => simp
  | cons a r ihl =>
    rw [List.flatMap_cons, List.nodup_append]
    obtain ⟨hna, hnr⟩ := List.nodup_cons.1 hn
    refine ⟨ih a (by simp), ihl (fun k hk => ih k (by simp [hk])) (fun k hk' => hk k (by simp [hk'])) (fun k hk' => hd k (by simp [hk'])) hnr, ?_⟩
    intro x hx y hy e
    subst e
    obtain ⟨b, hb, hxb⟩ := List.mem_flatMap.1 hy
    obtain ⟨h1, h2⟩ := pt_back h a (hk a (by simp)).1 x hx
    obtain ⟨_, h4⟩ := pt_back h b (hk b (by simp [hb])).1 x hxb
    have := back_inj h x h1 a h2 b h4 (by rw [hd a (by simp), hd b (by simp [hb])])
    subst this
    exact hna hb

/-- A node's children in two, one of them between. -/
theorem kids_split {X : Sh} {i k : Nat} (hk : k ∈ X.kids i) : ∃ K1 K2, X.kids i = K1 ++ k :: K2 := List.append_of_mem hk

/-- Where a part stands within a greater one. -/
theorem pt_within {X : Sh} (h : X.Good) : ∀ x, X.t x = true → ∀ i ∈ X.back x, ∃ pre post, X.pt i = pre ++ X.pt x ++ post ∧ (∀ y ∈ post.head?, X.d y ≤ X.d x) := by
  refine indUp h ?_ ?_
  · intro i hi
    rw [back_0 h] at hi
    simp at hi
    subst hi
    exact ⟨[], [], by simp, by simp⟩
  · intro x ht hx ih i hi
    rw [back_up h ht hx, List.mem_cons] at hi
    rcases hi with rfl | hi
    · exact ⟨[], [], by simp, by simp⟩
    · obtain ⟨pre, post, e, hp⟩ := ih i hi
      have h1 := h.up x ht hx
      obtain ⟨K1, K2, ek⟩ := kids_split ((mem_kids h).2 ⟨ht, hx, rfl⟩)
      have e2 := pt_eq h h1.1
      rw [ek, List.flatMap_append, List.flatMap_cons] at e2
      refine ⟨pre ++ X.u x :: K1.flatMap X.pt, K2.flatMap X.pt ++ post, by rw [e, e2]; simp, ?_⟩
      intro y hy
      cases K2 with
      | nil =>
        simp only [List.flatMap_nil, List.nil_append] at hy
        have := hp y hy
        omega
      | cons b r =>
        have hb : b ∈ X.kids (X.u x) := by rw [ek]; simp
        have hbd := kid_d h hb
        rw [List.flatMap_cons, pt_eq h ((mem_kids h).1 hb).1] at hy
        simp only [List.cons_append, List.head?_cons, Option.mem_def, Option.some.injEq] at hy
        subst hy
        omega

/-- The whole, with a node's part in it, and its parent ahead. -/
theorem pt_place {X : Sh} (h : X.Good) {x : Nat} (ht : X.t x = true) : ∃ pre post, X.pt 0 = pre ++ X.pt x ++ post ∧ (∀ y ∈ post.head?, X.d y ≤ X.d x) := pt_within h x ht 0 (back_root h x ht)
theorem pt_above {X : Sh} (h : X.Good) {x : Nat} (ht : X.t x = true) (hx : x ≠ 0) : ∃ pre A post, X.pt 0 = pre ++ X.u x :: A ++ X.pt x ++ post ∧ (∀ y ∈ A, X.d x ≤ X.d y) := by
  have h1 := h.up x ht hx
  obtain ⟨pre, post, e, _⟩ := pt_place h h1.1
  obtain ⟨K1, K2, ek⟩ := kids_split ((mem_kids h).2 ⟨ht, hx, rfl⟩)
  have e2 := pt_eq h h1.1
  rw [ek, List.flatMap_append, List.flatMap_cons] at e2
  refine ⟨pre, K1.flatMap X.pt, K2.flatMap X.pt ++ post, by rw [e, e2]; simp, ?_⟩
  intro y hy
  have : y ∈ (X.kids (X.u x)).flatMap X.pt := by
    rw [ek, List.flatMap_append]; simp only [List.mem_append]; exact .inl hy
  have := pt_deep h h1.1 this
  omega

/-- Places are told by what stands there. -/
theorem idx_uniq {l : List Nat} (hn : l.Nodup) {i j : Nat} {x : Nat} (hi : l[i]? = some x) (hj : l[j]? = some x) : i = j := by
  obtain ⟨h1, e1⟩ := List.getElem?_eq_some_iff.1 hi
  obtain ⟨h2, e2⟩ := List.getElem?_eq_some_iff.1 hj
  exact (List.getElem_inj hn).1 (e1.trans e2.symm)
theorem place_pre {X : Sh} (h : X.Good) {x j : Nat} {pre post : List Nat} (e : X.pt 0 = pre ++ X.pt x ++ post) (hx : X.t x = true) (hj : (X.pt 0)[j]? = some x) : j = pre.length := by
  refine idx_uniq (pt_nodup h 0 h.t0) hj ?_
  rw [e, pt_eq h hx]
  simp
/-- A part is what lies behind its node as far as it is deeper. -/
theorem place_end {X : Sh} (h : X.Good) {x j : Nat} (hx : X.t x = true) (hj : (X.pt 0)[j]? = some x) :
    ∃ pre post, X.pt 0 = pre ++ X.pt x ++ post ∧ j = pre.length ∧ (∀ m y, j < m → m < j + (X.pt x).length → (X.pt 0)[m]? = some y → X.d x < X.d y) ∧ (∀ y, (X.pt 0)[j + (X.pt x).length]? = some y → X.d y ≤ X.d x) ∧ j + (X.pt x).length ≤ (X.pt 0).length := by
  obtain ⟨pre, post, e, hp⟩ := pt_place h hx
  have hjp := place_pre h e hx hj
  refine ⟨pre, post, e, hjp, ?_, ?_, by rw [e, hjp]; simp⟩
  · intro m y h1 h2 hm
    rw [e, List.append_assoc, List.getElem?_append_right (by omega), List.getElem?_append_left (by omega), pt_eq h hx] at hm
    obtain ⟨q, hq⟩ : ∃ q, m - pre.length = q + 1 := ⟨m - pre.length - 1, by omega⟩
    rw [hq, List.getElem?_cons_succ] at hm
    exact pt_deep h hx (List.mem_of_getElem? hm)
  · intro y hy
    rw [e, hjp, List.getElem?_append_right (by simp), List.length_append, Nat.sub_self] at hy
    refine hp y ?_
    rw [List.head?_eq_getElem?]
    exact hy
theorem place_up {X : Sh} (h : X.Good) {x j : Nat} (hx : X.t x = true) (hx0 : x ≠ 0) (hj : (X.pt 0)[j]? = some x) :
    ∃ q, q < j ∧ (X.pt 0)[q]? = some (X.u x) ∧ ∀ m y, q < m → m < j → (X.pt 0)[m]? = some y → X.d x ≤ X.d y := by
  obtain ⟨pre, A, post, e, hA⟩ := pt_above h hx hx0
  have e' : X.pt 0 = (pre ++ X.u x :: A) ++ X.pt x ++ post := e
  have hjp := place_pre h e' hx hj
  have hl : (pre ++ X.u x :: A).length = pre.length + A.length + 1 := by simp; omega
  refine ⟨pre.length, by omega, by rw [e]; simp, fun m y h1 h2 hm => hA y ?_⟩
  rw [e', List.append_assoc, List.getElem?_append_left (by omega), List.getElem?_append_right (by omega)] at hm
  obtain ⟨q, hq⟩ : ∃ q, m - pre.length = q + 1 := ⟨m - pre.length - 1, by omega⟩
  rw [hq, List.getElem?_cons_succ] at hm
  exact List.mem_of_getElem? hm
theorem place_of {X : Sh} (h : X.Good) {x : Nat} (hx : X.t x = true) : ∃ j : Nat, j < (X.pt 0).length ∧ (X.pt 0)[j]? = some x := by
  obtain ⟨j, hj, e⟩ := List.getElem_of_mem ((pt_all h).2 hx)
  exact ⟨j, hj, by rw [List.getElem?_eq_getElem hj, e]⟩
theorem place_in {X : Sh} (h : X.Good) {x y j m : Nat} (hx : X.t x = true) (hj : (X.pt 0)[j]? = some x) (hm : (X.pt 0)[m]? = some y) : (j ≤ m ∧ m < j + (X.pt x).length) ↔ y ∈ X.pt x := by
  obtain ⟨pre, post, e, hjp, _⟩ := place_end h hx hj
  constructor
  · rintro ⟨h1, h2⟩
    rw [e, List.append_assoc, List.getElem?_append_right (by omega), List.getElem?_append_left (by omega)] at hm
    exact List.mem_of_getElem? hm
  · intro hy
    obtain ⟨q, hq, eq⟩ := List.getElem_of_mem hy
    have : (X.pt 0)[j + q]? = some y := by
      rw [e, List.append_assoc, List.getElem?_append_right (by omega), List.getElem?_append_left (by omega), hjp, Nat.add_sub_cancel_left, List.getElem?_eq_getElem hq, eq]
    have := idx_uniq (pt_nodup h 0 h.t0) hm this
    omega
theorem few {l : List Nat} {n : Nat} (hn : l.Nodup) (h : ∀ x ∈ l, x < n) : l.length ≤ n := by
  induction n generalizing l with
  | zero =>
    cases l with
    | nil => simp
    | cons a r => have := h a (by simp); omega
  | succ n ih =>
    have h1 := ih (l := l.erase n) (hn.erase n) fun x hx => by
      have h2 := (hn.mem_erase_iff).1 hx
      have := h x h2.2
      have := h2.1
      omega
    by_cases hm : n ∈ l
    · rw [List.length_erase_of_mem hm] at h1; omega
    · rw [List.erase_of_not_mem hm] at h1; omega
theorem pt_len {X : Sh} (h : X.Good) {i : Nat} (hi : X.t i = true) : (X.pt i).length ≤ 64 := by
  exact few (pt_nodup h i hi) fun x hx => h.lt x (pt_back h i hi x hx).1
/-- A node's children are those of its part that are one deeper. -/
theorem kids_of_part {X : Sh} (h : X.Good) (i : Nat) : ((X.kids i).flatMap X.pt).filter (fun x => decide (X.d x = X.d i + 1)) = X.kids i := by
  have hk := fun k (hk : k ∈ X.kids i) => (mem_kids h).1 hk
  have hd := fun k (hk : k ∈ X.kids i) => kid_d h hk
  generalize X.kids i = l at *
  rw [List.filter_flatMap]
  conv => rhs; rw [← flatMap_one l]
  refine flatMap_same fun k hk' => ?_
  have hkt := (hk k hk').1
  rw [pt_eq h hkt, List.filter_cons, if_pos (by simp [hd k hk'])]
  congr 1
  rw [List.filter_eq_nil_iff]
  intro x hx
  have := pt_deep h hkt hx
  have := hd k hk'
  simp
  omega
end Tr
end Go.Proofs.Ytkfcmpakocidoaa
