/- Plain mathematics of stage 9, goes on: a node is added, a part is removed, the lowest node above two; nothing of the program; no condition but those that each row names. -/
import Derived.Test.YtkfcmpakocidoaaVMath
namespace Go.Proofs.Ytkfcmpakocidoaa
open Go.RowKit
namespace Tr

theorem mem_form {K1 K2 : List Nat} {x y : Nat} (hn : (K1 ++ x :: K2).Nodup) (hy : y ∈ K1 ++ K2) : y ∈ K1 ++ x :: K2 ∧ y ≠ x := by
  refine ⟨by simp only [List.mem_append, List.mem_cons] at hy ⊢; rcases hy with h | h; exact .inl h; exact .inr (.inr h), ?_⟩
  rintro rfl
  rw [List.nodup_append, List.nodup_cons] at hn
  obtain ⟨_, ⟨h2, _⟩, h3⟩ := hn
  rcases List.mem_append.1 hy with h | h
  · exact h3 _ h _ (by simp) rfl
  · exact h2 h

-- a node is added
def Sh.add (X : Sh) (p s : Nat) : Sh := ⟨fun i => decide (i = s) || X.t i, fun i => if i = s then p else X.u i, fun i => if i = s then X.d p + 1 else X.d i⟩
structure CanAdd (X : Sh) (p s : Nat) : Prop where
  tp : X.t p = true
  ts : X.t s = false
  s64 : s < 64
  d8 : X.d p + 1 ≤ 8
theorem CanAdd.ne {X : Sh} {p s : Nat} (c : CanAdd X p s) {i : Nat} (hi : X.t i = true) : i ≠ s := by rintro rfl; rw [c.ts] at hi; cases hi
theorem add_t {X : Sh} {p s i : Nat} (hi : X.t i = true) : (X.add p s).t i = true := by simp [Sh.add, hi]
theorem add_ts (X : Sh) (p s : Nat) : (X.add p s).t s = true := by simp [Sh.add]
theorem add_d {X : Sh} {p s i : Nat} (hi : i ≠ s) : (X.add p s).d i = X.d i := by simp [Sh.add, hi]
theorem add_ds (X : Sh) (p s : Nat) : (X.add p s).d s = X.d p + 1 := by simp [Sh.add]
theorem add_u {X : Sh} {p s i : Nat} (hi : i ≠ s) : (X.add p s).u i = X.u i := by simp [Sh.add, hi]
theorem add_us (X : Sh) (p s : Nat) : (X.add p s).u s = p := by simp [Sh.add]
theorem add_good {X : Sh} (h : X.Good) {p s : Nat} (c : CanAdd X p s) : (X.add p s).Good := by
  have h0 := c.ne h.t0
  have hp := c.ne c.tp
  refine ⟨add_t h.t0, by rw [add_d h0]; exact h.d0, fun i hi => ?_, fun i hi hi0 => ?_, fun i hi => ?_⟩
  · by_cases e : i = s
    · subst e; exact c.s64
    · simp [Sh.add, e] at hi; exact h.lt i hi
  · by_cases e : i = s
    · subst e
      rw [add_us, add_ds, add_d hp]
      exact ⟨add_t c.tp, rfl⟩
    · simp [Sh.add, e] at hi
      obtain ⟨h1, h2⟩ := h.up i hi hi0
      rw [add_u e, add_d e, add_d (c.ne h1)]
      exact ⟨add_t h1, h2⟩
  · by_cases e : i = s
    · subst e; rw [add_ds]; exact c.d8
    · simp [Sh.add, e] at hi; rw [add_d e]; exact h.d8 i hi
theorem add_isKid {X : Sh} {p s q k : Nat} (hk : k ≠ s) : (X.add p s).isKid q k = X.isKid q k := by simp [Sh.isKid, Sh.add, hk]
theorem isKid_not {X : Sh} {q k : Nat} (hk : X.t k = false) : X.isKid q k = false := by simp [Sh.isKid, hk]
theorem add_isKid_s {X : Sh} (h : X.Good) {p s : Nat} (c : CanAdd X p s) (q : Nat) : (X.add p s).isKid q s = decide (p = q) := by
  have h0 : s ≠ 0 := fun e => c.ne h.t0 e.symm
  simp [Sh.isKid, Sh.add, h0]
theorem add_kids {X : Sh} (h : X.Good) {p s : Nat} (c : CanAdd X p s) {q : Nat} (hq : q ≠ p) : (X.add p s).kids q = X.kids q := by
  unfold Sh.kids
  refine List.filter_congr fun k _ => ?_
  by_cases e : k = s
  · subst e; rw [add_isKid_s h c, isKid_not c.ts]; simpa using fun e => hq (Eq.symm e)
  · exact add_isKid e
theorem add_kids_p {X : Sh} (h : X.Good) {p s : Nat} (c : CanAdd X p s) : ∃ K1 K2, X.kids p = K1 ++ K2 ∧ (X.add p s).kids p = K1 ++ s :: K2 ∧ (∀ k ∈ K1, k < s) ∧ (∀ k ∈ K2, s < k) := by
  obtain ⟨l1, l2, e⟩ := List.append_of_mem (List.mem_range.2 c.s64)
  have hp := List.pairwise_lt_range (n := 64)
  rw [e, List.pairwise_append, List.pairwise_cons] at hp
  obtain ⟨_, ⟨h2, _⟩, h3⟩ := hp
  have g1 : ∀ k ∈ l1, k < s := fun k hk => h3 k hk s (by simp)
  have f1 : l1.filter ((X.add p s).isKid p) = l1.filter (X.isKid p) := List.filter_congr fun k hk => add_isKid (by have := g1 k hk; omega)
  have f2 : l2.filter ((X.add p s).isKid p) = l2.filter (X.isKid p) := List.filter_congr fun k hk => add_isKid (by have := h2 k hk; omega)
  refine ⟨l1.filter (X.isKid p), l2.filter (X.isKid p), ?_, ?_, fun k hk => g1 k (List.mem_filter.1 hk).1, fun k hk => h2 k (List.mem_filter.1 hk).1⟩
  · unfold Sh.kids
    rw [e, List.filter_append, List.filter_cons, if_neg (by rw [isKid_not c.ts]; simp)]
  · unfold Sh.kids
    rw [e, List.filter_append, List.filter_cons, if_pos (by rw [add_isKid_s h c]; simp), f1, f2]
theorem add_kids_s {X : Sh} (h : X.Good) {p s : Nat} (c : CanAdd X p s) : (X.add p s).kids s = [] := by
  rw [List.eq_nil_iff_forall_not_mem]
  intro k hk
  obtain ⟨h1, h2, h3⟩ := (mem_kids (add_good h c)).1 hk
  by_cases e : k = s
  · subst e; rw [add_us] at h3; exact c.ne c.tp h3
  · rw [add_u e] at h3
    simp [Sh.add, e] at h1
    exact c.ne (h.up k h1 h2).1 h3
/-- A part in which the new one's parent is not stays. -/
theorem add_pt {X : Sh} (h : X.Good) {p s : Nat} (c : CanAdd X p s) : ∀ i, X.t i = true → p ∉ X.pt i → (X.add p s).pt i = X.pt i := by
  refine ind h ?_
  intro i ht ih hp
  rw [pt_eq h ht] at hp
  simp only [List.mem_cons, List.mem_flatMap, not_or, not_exists, not_and] at hp
  rw [pt_eq (add_good h c) (add_t ht), pt_eq h ht, add_kids h c (fun e => hp.1 e.symm)]
  congr 1
  exact flatMap_same fun k hk => ih k hk (hp.2 k hk)
theorem add_pt_s {X : Sh} (h : X.Good) {p s : Nat} (c : CanAdd X p s) : (X.add p s).pt s = [s] := by
  rw [pt_eq (add_good h c) (add_ts X p s), add_kids_s h c]; rfl
theorem kid_not_above {X : Sh} (h : X.Good) {p k : Nat} (hk : k ∈ X.kids p) : p ∉ X.pt k := by
  intro hx
  have h1 := pt_d h ((mem_kids h).1 hk).1 hx
  have := kid_d h hk
  omega
theorem add_pt_p {X : Sh} (h : X.Good) {p s : Nat} (c : CanAdd X p s) : ∃ K1 K2, X.kids p = K1 ++ K2 ∧ X.pt p = p :: (K1.flatMap X.pt ++ K2.flatMap X.pt) ∧ (X.add p s).pt p = p :: (K1.flatMap X.pt ++ s :: K2.flatMap X.pt) ∧ (∀ k ∈ K1, k < s) ∧ (∀ k ∈ K2, s < k) := by
  obtain ⟨K1, K2, e1, e2, h1, h2⟩ := add_kids_p h c
  have hk : ∀ k ∈ K1 ++ K2, (X.add p s).pt k = X.pt k := fun k hk => by
    rw [← e1] at hk
    exact add_pt h c k ((mem_kids h).1 hk).1 (kid_not_above h hk)
  refine ⟨K1, K2, e1, by rw [pt_eq h c.tp, e1, List.flatMap_append], ?_, h1, h2⟩
  rw [pt_eq (add_good h c) (add_t c.tp), e2, List.flatMap_append, List.flatMap_cons, add_pt_s h c, flatMap_same fun k hk' => hk k (by simp [hk']), flatMap_same (l := K2) fun k hk' => hk k (by simp [hk'])]
  rfl
theorem add_within {X : Sh} (h : X.Good) {p s : Nat} (c : CanAdd X p s) : ∀ x, X.t x = true → x ∈ X.back p → ∀ i ∈ X.back x, ∃ pre post, X.pt i = pre ++ X.pt x ++ post ∧ (X.add p s).pt i = pre ++ (X.add p s).pt x ++ post := by
  refine indUp h ?_ ?_
  · intro _ i hi
    rw [back_0 h] at hi
    simp at hi
    subst hi
    exact ⟨[], [], by simp, by simp⟩
  · intro x ht hx ih hxp i hi
    rw [back_up h ht hx, List.mem_cons] at hi
    rcases hi with rfl | hi
    · exact ⟨[], [], by simp, by simp⟩
    · have h1 := h.up x ht hx
      have hup := back_step h p c.tp x hxp hx
      obtain ⟨pre, post, e, e'⟩ := ih hup i hi
      have hxk := (mem_kids h).2 ⟨ht, hx, rfl⟩
      obtain ⟨K1, K2, ek⟩ := kids_split hxk
      have hn := kids_nodup X (X.u x)
      rw [ek] at hn
      have hne : X.u x ≠ p := by
        intro e
        have := (back_mem h p c.tp x hxp).2
        rw [← e] at this
        omega
      have e2 := pt_eq h h1.1
      rw [ek, List.flatMap_append, List.flatMap_cons] at e2
      have e3 := pt_eq (add_good h c) (add_t (p := p) (s := s) h1.1)
      have hk : ∀ k ∈ K1 ++ K2, (X.add p s).pt k = X.pt k := fun k hk => by
        obtain ⟨m1, m2⟩ := mem_form hn hk
        rw [← ek] at m1
        have m3 := (mem_kids h).1 m1
        refine add_pt h c k m3.1 fun hp => ?_
        have m4 := (pt_back h k m3.1 p hp).2
        exact m2 (back_inj h p c.tp k m4 x hxp (by rw [kid_d h m1, kid_d h hxk]))
      rw [add_kids h c hne, ek, List.flatMap_append, List.flatMap_cons, flatMap_same fun k hk' => hk k (by simp [hk']), flatMap_same (l := K2) fun k hk' => hk k (by simp [hk'])] at e3
      exact ⟨pre ++ X.u x :: K1.flatMap X.pt, K2.flatMap X.pt ++ post, by rw [e, e2]; simp, by rw [e', e3]; simp⟩
/-- The new one's place. -/
theorem add_all {X : Sh} (h : X.Good) {p s j : Nat} (c : CanAdd X p s) (hj : (X.pt 0)[j]? = some p) :
    ∃ q, j < q ∧ q ≤ j + (X.pt p).length ∧ (X.add p s).pt 0 = (X.pt 0).take q ++ s :: (X.pt 0).drop q ∧ (∀ m y, j < m → m < q → (X.pt 0)[m]? = some y → X.d y ≠ X.d p + 1 ∨ y < s) ∧ (q < j + (X.pt p).length → ∃ y, (X.pt 0)[q]? = some y ∧ X.d y = X.d p + 1 ∧ s < y) := by
  obtain ⟨pre, post, e, e'⟩ := add_within h c p c.tp (back_self X p) 0 (back_root h p c.tp)
  obtain ⟨K1, K2, ek, e1, e2, h1, h2⟩ := add_pt_p h c
  have hjp := place_pre h e c.tp hj
  have hK1 : ∀ k ∈ K1, k ∈ X.kids p := fun k hk => by rw [ek]; simp [hk]
  have hK2 : ∀ k ∈ K2, k ∈ X.kids p := fun k hk => by rw [ek]; simp [hk]
  rw [e1] at e
  rw [e2] at e'
  rw [e1]
  generalize hF : K1.flatMap X.pt = F at *
  generalize hG : K2.flatMap X.pt = G at *
  have e3 : X.pt 0 = (pre ++ p :: F) ++ (G ++ post) := by rw [e]; simp
  have hl : (pre ++ p :: F).length = j + 1 + F.length := by simp; omega
  refine ⟨j + 1 + F.length, by omega, by simp; omega, ?_, ?_, ?_⟩
  · rw [e3, ← hl, List.take_left, List.drop_left, e']; simp
  · intro m y m1 m2 hm
    rw [e3, List.getElem?_append_left (by omega), List.getElem?_append_right (by omega)] at hm
    obtain ⟨q, hq⟩ : ∃ q, m - pre.length = q + 1 := ⟨m - pre.length - 1, by omega⟩
    rw [hq, List.getElem?_cons_succ] at hm
    have hy := List.mem_of_getElem? hm
    rw [← hF, List.mem_flatMap] at hy
    obtain ⟨k, hk, hy⟩ := hy
    have hkk := (mem_kids h).1 (hK1 k hk)
    have hd := kid_d h (hK1 k hk)
    rw [pt_eq h hkk.1, List.mem_cons] at hy
    rcases hy with rfl | hy
    · exact .inr (h1 _ hk)
    · have := pt_deep h hkk.1 hy
      exact .inl (by omega)
  · intro hq
    cases K2 with
    | nil =>
      simp only [List.flatMap_nil] at hG
      subst hG
      simp at hq
      omega
    | cons k r =>
      have hkk := (mem_kids h).1 (hK2 k (by simp))
      have hd := kid_d h (hK2 k (by simp))
      refine ⟨k, ?_, hd, h2 k (by simp)⟩
      rw [e3, List.getElem?_append_right (by omega), hl, Nat.sub_self, ← hG, List.flatMap_cons, pt_eq h hkk.1]
      rfl

-- a part is removed
def Sh.rem (X : Sh) (i : Nat) : Sh := ⟨fun x => X.t x && decide (x ∉ X.pt i), X.u, X.d⟩
theorem rem_t {X : Sh} {i x : Nat} : (X.rem i).t x = true ↔ X.t x = true ∧ x ∉ X.pt i := by simp [Sh.rem]
theorem rem_down {X : Sh} (h : X.Good) {i k x : Nat} (hi : X.t i = true) (hk : k ∈ X.pt i) (hx : x ∈ X.pt k) : x ∈ X.pt i := by
  obtain ⟨h1, h2⟩ := pt_back h i hi k hk
  obtain ⟨h3, h4⟩ := pt_back h k h1 x hx
  exact back_pt h x h3 i (back_sub h x h3 k h4 i h2)
theorem rem_good {X : Sh} (h : X.Good) {i : Nat} (hi : X.t i = true) (hi0 : i ≠ 0) : (X.rem i).Good := by
  refine ⟨rem_t.2 ⟨h.t0, fun hx => ?_⟩, h.d0, fun x hx => h.lt x (rem_t.1 hx).1, fun x hx hx0 => ?_, fun x hx => h.d8 x (rem_t.1 hx).1⟩
  · have := pt_d h hi hx
    have := h.d0
    have := d_pos h hi hi0
    omega
  · obtain ⟨h1, h2⟩ := rem_t.1 hx
    obtain ⟨h3, h4⟩ := h.up x h1 hx0
    exact ⟨rem_t.2 ⟨h3, fun hu => h2 (pt_kid h i hi _ hu x ((mem_kids h).2 ⟨h1, hx0, rfl⟩))⟩, h4⟩
theorem flatMap_filter {α β : Type} (l : List α) (p : α → Bool) (f : α → List β) : (l.filter p).flatMap f = l.flatMap fun x => if p x = true then f x else [] := by
  induction l with
  | nil => rfl
  | cons a r ih =>
    rw [List.filter_cons, List.flatMap_cons]
    split
    · rw [List.flatMap_cons, ih]
    · rw [ih]; rfl
theorem rem_kids (X : Sh) (i p : Nat) : (X.rem i).kids p = (X.kids p).filter fun x => decide (x ∉ X.pt i) := by
  unfold Sh.kids
  rw [List.filter_filter]
  refine List.filter_congr fun k _ => ?_
  unfold Sh.isKid Sh.rem
  simp only
  generalize decide (k ∉ X.pt i) = D
  cases X.t k <;> cases D <;> simp
theorem rem_pt {X : Sh} (h : X.Good) {i : Nat} (hi : X.t i = true) (hi0 : i ≠ 0) : ∀ j, X.t j = true → j ∉ X.pt i → (X.rem i).pt j = (X.pt j).filter fun x => decide (x ∉ X.pt i) := by
  refine ind h ?_
  intro j ht ih hj
  rw [pt_eq (rem_good h hi hi0) (rem_t.2 ⟨ht, hj⟩), pt_eq h ht, List.filter_cons, if_pos (by simp [hj]), rem_kids, flatMap_filter, List.filter_flatMap]
  congr 1
  refine flatMap_same fun k hk => ?_
  by_cases e : k ∈ X.pt i
  · rw [if_neg (by simp [e])]
    symm
    rw [List.filter_eq_nil_iff]
    intro x hx
    simp [rem_down h hi e hx]
  · rw [if_pos (by simp [e])]
    exact ih k hk e
theorem rem_filter {X : Sh} (h : X.Good) {i : Nat} (hi : X.t i = true) (hi0 : i ≠ 0) : (X.rem i).pt 0 = (X.pt 0).filter fun x => decide (x ∉ X.pt i) :=
  rem_pt h hi hi0 0 h.t0 (rem_t.1 (rem_good h hi hi0).t0).2
theorem rem_all {X : Sh} (h : X.Good) {i j : Nat} (hi : X.t i = true) (hi0 : i ≠ 0) (hj : (X.pt 0)[j]? = some i) : (X.rem i).pt 0 = (X.pt 0).take j ++ (X.pt 0).drop (j + (X.pt i).length) := by
  obtain ⟨pre, post, e, hjp, _⟩ := place_end h hi hj
  have hn := pt_nodup h 0 h.t0
  rw [rem_filter h hi hi0]
  rw [e] at hn ⊢
  rw [List.nodup_append, List.nodup_append] at hn
  obtain ⟨⟨_, _, h1⟩, _, h2⟩ := hn
  have t1 : (pre ++ X.pt i ++ post).take j = pre := by rw [hjp, List.append_assoc, List.take_left]
  have t2 : (pre ++ X.pt i ++ post).drop (j + (X.pt i).length) = post := by rw [hjp, ← List.length_append, List.drop_left]
  rw [t1, t2, List.filter_append, List.filter_append]
  have f1 : pre.filter (fun x => decide (x ∉ X.pt i)) = pre := List.filter_eq_self.2 fun x hx => by simpa using fun k => h1 x hx x k rfl
  have f2 : (X.pt i).filter (fun x => decide (x ∉ X.pt i)) = [] := List.filter_eq_nil_iff.2 fun x hx => by simp [hx]
  have f3 : post.filter (fun x => decide (x ∉ X.pt i)) = post := List.filter_eq_self.2 fun x hx => by simpa using fun k => h2 x (by simp [k]) x hx rfl
  rw [f1, f2, f3]; simp
/-- What is within one, in the order of all. -/
theorem within_all {X : Sh} (h : X.Good) {i : Nat} (hi : X.t i = true) : (X.pt 0).filter (fun x => decide (x ∈ X.pt i)) = X.pt i := by
  obtain ⟨pre, post, e, _⟩ := pt_place h hi
  have hn := pt_nodup h 0 h.t0
  rw [e] at hn ⊢
  rw [List.nodup_append, List.nodup_append] at hn
  obtain ⟨⟨_, _, h1⟩, _, h2⟩ := hn
  rw [List.filter_append, List.filter_append]
  have f1 : pre.filter (fun x => decide (x ∈ X.pt i)) = [] := List.filter_eq_nil_iff.2 fun x hx => by simpa using fun k => h1 x hx x k rfl
  have f2 : (X.pt i).filter (fun x => decide (x ∈ X.pt i)) = X.pt i := List.filter_eq_self.2 fun x hx => by simp [hx]
  have f3 : post.filter (fun x => decide (x ∈ X.pt i)) = [] := List.filter_eq_nil_iff.2 fun x hx => by simpa using fun k => h2 x (by simp [k]) x hx rfl
  rw [f1, f2, f3]; simp

-- paths
def Sh.path (X : Sh) (i : Nat) : List Nat := (X.back i).reverse
theorem path_len (X : Sh) (i : Nat) : (X.path i).length = X.d i + 1 := by unfold Sh.path; rw [List.length_reverse, back_len]
theorem path_up {X : Sh} (h : X.Good) {i : Nat} (ht : X.t i = true) (hi : i ≠ 0) : X.path i = X.path (X.u i) ++ [i] := by unfold Sh.path; rw [back_up h ht hi]; simp
theorem path_0 {X : Sh} (h : X.Good) : X.path 0 = [0] := by unfold Sh.path; rw [back_0 h]; rfl
theorem path_d {X : Sh} (h : X.Good) : ∀ x, X.t x = true → ∀ m y, (X.path x)[m]? = some y → X.d y = m := by
  refine indUp h ?_ ?_
  · intro m y hm
    rw [path_0 h] at hm
    cases m with
    | zero => simp at hm; subst hm; exact h.d0
    | succ m => simp at hm
  · intro x ht hx ih m y hm
    rw [path_up h ht hx] at hm
    have hl := path_len X (X.u x)
    have h1 := h.up x ht hx
    by_cases e : m < (X.path (X.u x)).length
    · rw [List.getElem?_append_left e] at hm; exact ih m y hm
    · rw [List.getElem?_append_right (by omega)] at hm
      cases hz : m - (X.path (X.u x)).length with
      | zero => rw [hz] at hm; simp at hm; subst hm; omega
      | succ q => rw [hz] at hm; simp at hm
theorem path_get {X : Sh} (h : X.Good) {x : Nat} (hx : X.t x = true) {y : Nat} (hy : y ∈ X.back x) : (X.path x)[X.d y]? = some y := by
  have : y ∈ X.path x := by unfold Sh.path; simpa using hy
  obtain ⟨j, hj, e⟩ := List.getElem_of_mem this
  have h1 : (X.path x)[j]? = some y := by rw [List.getElem?_eq_getElem hj, e]
  rw [path_d h x hx j y h1]
  exact h1
theorem path_mem {X : Sh} {x m y : Nat} (hm : (X.path x)[m]? = some y) : y ∈ X.back x := by
  have := List.mem_of_getElem? hm
  unfold Sh.path at this
  simpa using this
theorem path_at {X : Sh} (h : X.Good) {x : Nat} (hx : X.t x = true) (m : Nat) (hm : m ≤ X.d x) : ∃ y, (X.path x)[m]? = some y ∧ y ∈ X.back x ∧ X.d y = m := by
  have hl : m < (X.path x).length := by rw [path_len]; omega
  refine ⟨(X.path x)[m], List.getElem?_eq_getElem hl, path_mem (List.getElem?_eq_getElem hl), path_d h x hx m _ (List.getElem?_eq_getElem hl)⟩
/-- Who stands on both ways up, as low as can be. -/
structure Low (X : Sh) (a b r : Nat) : Prop where
  ina : r ∈ X.back a
  inb : r ∈ X.back b
  low : ∀ y ∈ X.back a, X.d r < X.d y → y ∉ X.back b
/-- Where two paths part. -/
theorem low_parts {X : Sh} (h : X.Good) {a b r c : Nat} (ha : X.t a = true) (hb : X.t b = true) (hr : Low X a b r) (h0 : 0 < c) (hc : ∀ m, m < c → (X.path a)[m]? = (X.path b)[m]? ∧ m < (X.path a).length)
    (he : c = (X.path a).length ∨ c = (X.path b).length ∨ (X.path a)[c]? ≠ (X.path b)[c]?) : (X.path a)[c - 1]? = some r := by
  have hra := (back_mem h a ha r hr.ina)
  have hrb := (back_mem h b hb r hr.inb)
  have la := path_len X a
  have lb := path_len X b
  have g1 : X.d r < c := by
    rcases Nat.lt_or_ge (X.d r) c with g | g
    · exact g
    · exfalso
      rcases he with e | e | e
      · omega
      · omega
      · obtain ⟨y, y1, y2, y3⟩ := path_at h hra.1 c (by omega)
        have m1 := path_get h ha (back_sub h a ha r hr.ina y y2)
        have m2 := path_get h hb (back_sub h b hb r hr.inb y y2)
        rw [y3] at m1 m2
        exact e (m1.trans m2.symm)
  obtain ⟨h1, h2⟩ := hc (c - 1) (by omega)
  obtain ⟨y, y1, y2, y3⟩ := path_at h ha (c - 1) (by omega)
  have g2 : X.d y ≤ X.d r := by
    rcases Nat.lt_or_ge (X.d r) (X.d y) with g | g
    · exact absurd (path_mem (h1.symm.trans y1)) (hr.low y y2 g)
    · exact g
  have g3 : X.d r = c - 1 := by omega
  have := path_get h ha hr.ina
  rw [g3] at this
  exact this
end Tr
end Go.Proofs.Ytkfcmpakocidoaa
