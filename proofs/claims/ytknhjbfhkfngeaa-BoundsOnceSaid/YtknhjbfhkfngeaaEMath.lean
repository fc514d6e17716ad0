/- Plain mathematics of a heap laid in a list: what order is asked, what stands right, what rising and sinking keep; nothing of the program; no condition but those that each row names. -/
namespace Go.Proofs.Ytknhjbfhkfngeaa
namespace Hp

/-- A strict order in which every two are parted. -/
structure Ord {β : Type} (ah : β → β → Bool) : Prop where
  irr : ∀ x, ah x x = false
  trans : ∀ {x y z}, ah x y = true → ah y z = true → ah x z = true
  tot : ∀ {x y}, ah x y = false → ah y x = false → x = y

section
variable {β : Type} {ah : β → β → Bool}
/-- The second is not ahead of the first. -/
def le (ah : β → β → Bool) (x y : β) : Prop := ah y x = false
theorem Ord.refl (O : Ord ah) (x : β) : le ah x x := O.irr x
theorem Ord.asym (O : Ord ah) {x y : β} (h : ah x y = true) : ah y x = false := by
  rcases Bool.eq_false_or_eq_true (ah y x) with h2 | h2
  · have := O.trans h h2; rw [O.irr] at this; cases this
  · exact h2
theorem Ord.le_of (O : Ord ah) {x y : β} (h : ah x y = true) : le ah x y := O.asym h
theorem Ord.le_trans (O : Ord ah) {x y z : β} (h : le ah x y) (k : le ah y z) : le ah x z := by
  unfold le at *
  rcases Bool.eq_false_or_eq_true (ah z x) with h2 | h2
  · rcases Bool.eq_false_or_eq_true (ah x y) with h3 | h3
    · have := O.trans h2 h3; rw [k] at this; cases this
    · have := O.tot h3 h; subst this; rw [k] at h2; cases h2
  · exact h2
theorem Ord.lt_of_le_ne (O : Ord ah) {x y : β} (h : le ah x y) (hne : x ≠ y) : ah x y = true := by
  rcases Bool.eq_false_or_eq_true (ah x y) with h2 | h2
  · exact h2
  · exact absurd (O.tot h2 h) hne

/-- The place above. -/
def par (i : Nat) : Nat := (i - 1) / 2
theorem par_lt {i : Nat} (h : 0 < i) : par i < i := by unfold par; omega
theorem par_kid {i p : Nat} (h : 0 < i) : par i = p ↔ i = 2 * p + 1 ∨ i = 2 * p + 2 := by unfold par; omega

/-- None comes ahead of the one above it. -/
def Heap (ah : β → β → Bool) (f : Nat → β) (n : Nat) : Prop := ∀ i, 0 < i → i < n → le ah (f (par i)) (f i)
/-- What hangs below p is not ahead of what is above p. -/
def Over (ah : β → β → Bool) (f : Nat → β) (n p : Nat) : Prop := ∀ i, 0 < i → i < n → par i = p → 0 < p → le ah (f (par p)) (f i)
/-- All right but for p and what hangs below it. -/
def Fix (ah : β → β → Bool) (f : Nat → β) (n p : Nat) : Prop := (∀ i, 0 < i → i < n → i ≠ p → par i ≠ p → le ah (f (par i)) (f i)) ∧ Over ah f n p
/-- All right but for p. -/
def Up (ah : β → β → Bool) (f : Nat → β) (n p : Nat) : Prop := (∀ i, 0 < i → i < n → i ≠ p → le ah (f (par i)) (f i)) ∧ Over ah f n p
/-- All right but for what hangs below p. -/
def Down (ah : β → β → Bool) (f : Nat → β) (n p : Nat) : Prop := (∀ i, 0 < i → i < n → par i ≠ p → le ah (f (par i)) (f i)) ∧ Over ah f n p
/-- The places i and j exchanged. -/
def swf (f : Nat → β) (i j : Nat) : Nat → β := fun k => if k = j then f i else if k = i then f j else f k

theorem swf_j (f : Nat → β) (i j : Nat) : swf f i j j = f i := by simp [swf]
theorem swf_i (f : Nat → β) (i j : Nat) : swf f i j i = f j := by
  unfold swf
  by_cases h : i = j
  · subst h; simp
  · simp [h]
theorem swf_o (f : Nat → β) {i j k : Nat} (h1 : k ≠ i) (h2 : k ≠ j) : swf f i j k = f k := by simp [swf, h1, h2]

theorem Up.fix {f : Nat → β} {n p : Nat} (h : Up ah f n p) : Fix ah f n p := ⟨fun i h0 hn h1 _ => h.1 i h0 hn h1, h.2⟩

/-- A step up. -/
theorem up_step (O : Ord ah) {f : Nat → β} {n p : Nat} (h : Fix ah f n p) (hp : 0 < p) (hn : p < n) (ha : ah (f p) (f (par p)) = true) : Up ah (swf f p (par p)) n (par p) := by
  have hlt := par_lt hp
  have hle := O.le_of ha
  refine ⟨fun i h0 hi hne => ?_, fun i h0 hi hpi h0p => ?_⟩
  · by_cases e : i = p
    · subst e; rw [swf_j, swf_i]; exact hle
    · rw [swf_o f e hne]
      by_cases e1 : par i = p
      · rw [e1, swf_i]; exact h.2 i h0 hi e1 hp
      · by_cases e2 : par i = par p
        · rw [e2, swf_j]
          have := h.1 i h0 hi e e1
          rw [e2] at this
          exact O.le_trans hle this
        · rw [swf_o f e1 e2]; exact h.1 i h0 hi e e1
  · have hl2 := par_lt h0p
    rw [swf_o f (by omega) (by omega)]
    have hg := h.1 (par p) h0p (by omega) (by omega) (by omega)
    by_cases e : i = p
    · subst e; rw [swf_i]; exact hg
    · rw [swf_o f e (by intro e2; have := par_lt h0; omega)]
      have := h.1 i h0 hi e (by omega)
      rw [hpi] at this
      exact O.le_trans hg this
/-- Its end. -/
theorem up_end {f : Nat → β} {n p : Nat} (h : Up ah f n p) (he : p = 0 ∨ le ah (f (par p)) (f p)) : Heap ah f n := by
  intro i h0 hi
  by_cases e : i = p
  · subst e
    rcases he with he | he
    · omega
    · exact he
  · exact h.1 i h0 hi e
theorem fix_end {f : Nat → β} {n p : Nat} (h : Fix ah f n p) (he : p = 0 ∨ le ah (f (par p)) (f p)) : Down ah f n p := by
  refine ⟨fun i h0 hi hne => ?_, h.2⟩
  by_cases e : i = p
  · subst e
    rcases he with he | he
    · omega
    · exact he
  · exact h.1 i h0 hi e hne
theorem Heap.down (O : Ord ah) {f : Nat → β} {n p : Nat} (h : Heap ah f n) (hp : p < n) : Down ah f n p := by
  refine ⟨fun i h0 hi _ => h i h0 hi, fun i h0 hi hpi h0p => ?_⟩
  have h1 := h i h0 hi
  rw [hpi] at h1
  exact O.le_trans (h p h0p hp) h1
/-- Where nothing hangs below p. -/
theorem Down.leaf {f : Nat → β} {n p : Nat} (h : Down ah f n p) (hl : n ≤ 2 * p + 1) : Heap ah f n := fun i h0 hi => h.1 i h0 hi (by rw [Ne, par_kid h0]; omega)

/-- A step down, to the first one c of what hangs below. -/
theorem down_step (O : Ord ah) {f : Nat → β} {n p c : Nat} (h : Down ah f n p) (hc : c < n) (h0c : 0 < c) (hpc : par c = p) (hmin : ∀ i, 0 < i → i < n → par i = p → le ah (f c) (f i)) (ha : ah (f c) (f p) = true) : Down ah (swf f p c) n c := by
  have hlt := par_lt h0c
  refine ⟨fun i h0 hi hne => ?_, fun i h0 hi hpi _ => ?_⟩
  · by_cases e : i = c
    · subst e; rw [hpc, swf_i, swf_j]; exact O.le_of ha
    · by_cases e1 : par i = p
      · have : i ≠ p := by have := par_lt h0; omega
        rw [e1, swf_i, swf_o f this e]; exact hmin i h0 hi e1
      · by_cases e2 : i = p
        · subst e2
          have := par_lt h0
          rw [swf_i, swf_o f (by omega) (by omega)]
          exact h.2 c h0c hc hpc h0
        · rw [swf_o f e1 hne, swf_o f e2 e]; exact h.1 i h0 hi e1
  · have h2 := par_lt h0
    rw [hpc, swf_i, swf_o f (by omega) (by omega)]
    have := h.1 i h0 hi (by omega)
    rwa [hpi] at this
theorem down_end {f : Nat → β} {n p : Nat} (h : Down ah f n p) (he : ∀ i, 0 < i → i < n → par i = p → le ah (f p) (f i)) : Heap ah f n := by
  intro i h0 hi
  by_cases e : par i = p
  · rw [e]; exact he i h0 hi e
  · exact h.1 i h0 hi e
/-- The first one is ahead of all. -/
theorem Heap.first (O : Ord ah) {f : Nat → β} {n : Nat} (h : Heap ah f n) : ∀ i, i < n → le ah (f 0) (f i) := by
  intro i
  induction i using Nat.strongRecOn with
  | ind i ih =>
    intro hi
    by_cases e : i = 0
    · subst e; exact O.refl _
    · have hl := par_lt (i := i) (by omega)
      exact O.le_trans (ih _ hl (by omega)) (h i (by omega) hi)
/-- One value at p laid anew. -/
theorem fix_of (O : Ord ah) {f g : Nat → β} {n p : Nat} (h : Heap ah f n) (hg : ∀ k, k < n → k ≠ p → g k = f k) (hp : p < n) : Fix ah g n p := by
  refine ⟨fun i h0 hi h1 h2 => ?_, fun i h0 hi hpi h0p => ?_⟩
  · have := par_lt h0
    rw [hg i hi h1, hg _ (by omega) h2]; exact h i h0 hi
  · have h1 := par_lt h0
    have h2 := par_lt h0p
    rw [hg i hi (by omega), hg _ (by omega) (by omega)]
    have h3 := h i h0 hi
    rw [hpi] at h3
    exact O.le_trans (h p h0p hp) h3
theorem Heap.shorter {f : Nat → β} {n m : Nat} (h : Heap ah f n) (hm : m ≤ n) : Heap ah f m := fun i h0 hi => h i h0 (by omega)
theorem heap_congr {f g : Nat → β} {n : Nat} (h : Heap ah f n) (hg : ∀ k, k < n → g k = f k) : Heap ah g n := fun i h0 hi => by
  have := par_lt h0
  rw [hg i hi, hg _ (by omega)]; exact h i h0 hi
theorem fix_congr {f g : Nat → β} {n p : Nat} (h : Fix ah f n p) (hp : p < n) (hg : ∀ k, k < n → g k = f k) : Fix ah g n p :=
  ⟨fun i h0 hi h1 h2 => by have := par_lt h0; rw [hg i hi, hg _ (by omega)]; exact h.1 i h0 hi h1 h2, fun i h0 hi h1 h2 => by have := par_lt h2; rw [hg i hi, hg _ (by omega)]; exact h.2 i h0 hi h1 h2⟩
theorem up_congr {f g : Nat → β} {n p : Nat} (h : Up ah f n p) (hp : p < n) (hg : ∀ k, k < n → g k = f k) : Up ah g n p :=
  ⟨fun i h0 hi h1 => by have := par_lt h0; rw [hg i hi, hg _ (by omega)]; exact h.1 i h0 hi h1, fun i h0 hi h1 h2 => by have := par_lt h2; rw [hg i hi, hg _ (by omega)]; exact h.2 i h0 hi h1 h2⟩
theorem down_congr {f g : Nat → β} {n p : Nat} (h : Down ah f n p) (hp : p < n) (hg : ∀ k, k < n → g k = f k) : Down ah g n p :=
  ⟨fun i h0 hi h1 => by have := par_lt h0; rw [hg i hi, hg _ (by omega)]; exact h.1 i h0 hi h1, fun i h0 hi h1 h2 => by have := par_lt h2; rw [hg i hi, hg _ (by omega)]; exact h.2 i h0 hi h1 h2⟩

/-! Lists. -/
variable [Inhabited β]
/-- The element at a place. -/
def at' (l : List β) (i : Nat) : β := l.getD i default
theorem at_get {l : List β} {i : Nat} (h : i < l.length) : at' l i = l[i] := by simp [at', List.getD_eq_getElem?_getD, h]
theorem at_mem {l : List β} {i : Nat} (h : i < l.length) : at' l i ∈ l := by rw [at_get h]; exact List.getElem_mem h
/-- The places i and j exchanged. -/
def sw (l : List β) (i j : Nat) : List β := (l.set i (at' l j)).set j (at' l i)
theorem sw_len (l : List β) (i j : Nat) : (sw l i j).length = l.length := by simp [sw]
theorem at_set (l : List β) (i : Nat) (v : β) (k : Nat) (hi : i < l.length) : at' (l.set i v) k = if k = i then v else at' l k := by
  unfold at'
  by_cases e : k = i
  · subst e; simp [List.getD_eq_getElem?_getD, hi]
  · simp [List.getD_eq_getElem?_getD, e, Ne.symm e]
theorem at_sw (l : List β) (i j : Nat) (hi : i < l.length) (hj : j < l.length) (k : Nat) : at' (sw l i j) k = swf (at' l) i j k := by
  unfold sw swf
  rw [at_set _ _ _ _ (by simpa using hj), at_set _ _ _ _ hi]
theorem at_sw_fun (l : List β) (i j : Nat) (hi : i < l.length) (hj : j < l.length) : at' (sw l i j) = swf (at' l) i j := funext fun k => at_sw l i j hi hj k
theorem sw_perm (l : List β) (i j : Nat) (hi : i < l.length) (hj : j < l.length) : (sw l i j).Perm l := by
  unfold sw
  rw [at_get hi, at_get hj]
  exact List.set_set_perm hi hj
theorem at_append_l (l : List β) (x : β) (i : Nat) (h : i < l.length) : at' (l ++ [x]) i = at' l i := by
  simp [at', List.getD_eq_getElem?_getD, List.getElem?_append_left h]
theorem at_append_r (l : List β) (x : β) : at' (l ++ [x]) l.length = x := by
  simp [at', List.getD_eq_getElem?_getD]
theorem at_take (l : List β) (m i : Nat) (h : i < m) : at' (l.take m) i = at' l i := by
  simp [at', List.getD_eq_getElem?_getD, h]
end
end Hp
end Go.Proofs.Ytknhjbfhkfngeaa
