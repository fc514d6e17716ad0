/- What is noted of each number beside the calendar's list; the world in which both lie; nothing of the program is walked; no condition but those that each row names. -/
import Derived.Test.YtknhjbfhkfngeaaNDue
import Derived.Test.YtknhjbfhkfngeaaNIts
namespace Go.Proofs.Ytknhjbfhkfngeaa
open Go.RowKit Go.Maps Hp Cal

/-- f notes of each number below 64 when it comes up; below 0: it does not. -/
def Lg (f : Nat → Int) (L : List Pr) : Prop := (∀ x ∈ L, ∃ i : Nat, i < 64 ∧ x.1 = (i : Nat) ∧ x.2 = f i ∧ 0 ≤ f i ∧ f i < 500) ∧ ∀ i : Nat, i < 64 → 0 ≤ f i → (((i : Nat) : Int), f i) ∈ L
theorem lg_0 {f : Nat → Int} (h : ∀ i, i < 64 → f i = -1) : Lg f [] := ⟨fun x hx => by simp at hx, fun i hi h0 => by rw [h i hi] at h0; omega⟩
theorem lg_put {f : Nat → Int} {L : List Pr} (hL : Cal.Good L) (h : Lg f L) {i : Nat} (hi : i < 64) {a : Int} (ha : 0 ≤ a) (ha5 : a < 500) : Lg (upd f i a) (putL (i : Nat) a L) := by
  refine ⟨fun x hx => ?_, fun j hj h0 => ?_⟩
  · rcases (putL_mem hL).1 hx with rfl | ⟨h1, h2⟩
    · exact ⟨i, hi, rfl, (upd_same i a).symm, by rw [upd_same]; exact ha, by rw [upd_same]; exact ha5⟩
    · obtain ⟨j, hj, e1, e2, e3, e4⟩ := h.1 x h1
      have hne : j ≠ i := fun e => h2 (by rw [e1, e])
      exact ⟨j, hj, e1, by rw [upd_ne a hne]; exact e2, by rw [upd_ne a hne]; exact e3, by rw [upd_ne a hne]; exact e4⟩
  · by_cases e : j = i
    · subst e
      rw [upd_same]
      exact (putL_mem hL).2 (.inl rfl)
    · rw [upd_ne a e] at h0 ⊢
      exact (putL_mem hL).2 (.inr ⟨h.2 j hj h0, fun k => e (by exact Int.ofNat.inj k)⟩)
theorem lg_at {f : Nat → Int} {L : List Pr} (h : Lg f L) {k : Nat} (hk : k < L.length) : ∃ i : Nat, i < 64 ∧ L[k].1 = (i : Nat) ∧ L[k].2 = f i ∧ 0 ≤ f i := by
  obtain ⟨i, h1, h2, h3, h4, _⟩ := h.1 _ (List.getElem_mem hk)
  exact ⟨i, h1, h2, h3, h4⟩
/-- The first k are struck out. -/
def clr (f : Nat → Int) (L : List Pr) : Nat → Nat → Int
  | 0 => f
  | k + 1 => upd (clr f L k) (L.getD k (0, 0)).1.toNat (-1)
theorem clr_miss {f : Nat → Int} {L : List Pr} {j : Nat} : ∀ {k : Nat}, k ≤ L.length → (∀ m (h : m < L.length), m < k → L[m].1.toNat ≠ j) → clr f L k j = f j
  | 0, _, _ => rfl
  | k + 1, hk, h => by
    have e : L.getD k (0, 0) = L[k]'(by omega) := by rw [List.getD_eq_getElem?_getD, List.getElem?_eq_getElem (by omega)]; rfl
    show upd (clr f L k) (L.getD k (0, 0)).1.toNat (-1) j = f j
    rw [e, upd_ne _ (fun e2 => h k (by omega) (by omega) e2.symm)]
    exact clr_miss (by omega) fun m hm hmk => h m hm (by omega)
theorem clr_hit {f : Nat → Int} {L : List Pr} {j m : Nat} (hm : m < L.length) (e : L[m].1.toNat = j) : ∀ {k : Nat}, k ≤ L.length → m < k → clr f L k j = -1
  | 0, _, h => by omega
  | k + 1, hk, h => by
    have e1 : L.getD k (0, 0) = L[k]'(by omega) := by rw [List.getD_eq_getElem?_getD, List.getElem?_eq_getElem (by omega)]; rfl
    show upd (clr f L k) (L.getD k (0, 0)).1.toNat (-1) j = -1
    rw [e1]
    by_cases h2 : L[k].1.toNat = j
    · rw [h2, upd_same]
    · rw [upd_ne _ (fun e2 => h2 e2.symm)]
      have : m ≠ k := fun e3 => h2 (by subst e3; exact e)
      exact clr_hit hm e (by omega) (by omega)
theorem lg_due {f : Nat → Int} {L : List Pr} (hL : Cal.Good L) (h : Lg f L) {K : Nat} (hK : K ≤ L.length) : Lg (clr f L K) (L.drop K) := by
  have ho := List.pairwise_iff_getElem.1 hL.once
  have hkeep : ∀ m (hm : m < L.length), K ≤ m → ∀ i : Nat, L[m].1 = (i : Nat) → clr f L K i = f i := fun m hm hKm i e => by
    refine clr_miss hK fun m' hm' hlt e2 => ?_
    obtain ⟨i', _, e3, _⟩ := lg_at h hm'
    have := ho m' m hm' hm (by omega)
    apply this
    rw [e3, e]
    rw [e3] at e2
    simp at e2
    rw [e2]
  refine ⟨fun x hx => ?_, fun i hi h0 => ?_⟩
  · obtain ⟨j, hj, rfl⟩ := List.getElem_of_mem hx
    rw [List.length_drop] at hj
    rw [List.getElem_drop]
    obtain ⟨i, h1, h2, h3, h4, h5⟩ := h.1 _ (List.getElem_mem (show K + j < L.length by omega))
    have := hkeep (K + j) (by omega) (by omega) i h2
    exact ⟨i, h1, h2, by rw [this]; exact h3, by rw [this]; exact h4, by rw [this]; exact h5⟩
  · by_cases hm : ∃ m, ∃ h : m < L.length, m < K ∧ L[m].1.toNat = i
    · obtain ⟨m, hml, hmK, e⟩ := hm
      rw [clr_hit hml e hK hmK] at h0
      omega
    · have e : clr f L K i = f i := clr_miss hK fun m hml hmK e => hm ⟨m, hml, hmK, e⟩
      rw [e] at h0 ⊢
      obtain ⟨m, hml, e2⟩ := List.getElem_of_mem (h.2 i hi h0)
      have hge : K ≤ m := by
        rcases Nat.lt_or_ge m K with h3 | h3
        · exact absurd ⟨m, hml, h3, by rw [e2]; simp⟩ hm
        · exact h3
      rw [← e2]
      have := List.getElem_mem (l := L.drop K) (n := m - K) (by rw [List.length_drop]; omega)
      rw [List.getElem_drop] at this
      have e3 : K + (m - K) = m := by omega
      simpa only [e3] using this
/-- Nothing is left. -/
theorem lg_none {f : Nat → Int} {L : List Pr} (h : Lg f L) {t : Int} (ht : 500 ≤ t) (hx : ∀ x ∈ L, t < x.2) : L = [] ∧ ∀ i, i < 64 → f i < 0 := by
  have hL : L = [] := by
    cases L with
    | nil => rfl
    | cons x r =>
      obtain ⟨i, _, _, e, _, h5⟩ := h.1 x (by simp)
      have := hx x (by simp)
      omega
  refine ⟨hL, fun i hi => ?_⟩
  by_cases h0 : f i < 0
  · exact h0
  · have := h.2 i hi (by omega)
    rw [hL] at this
    simp at this
/-- The calendar, and the row of what is noted. -/
structure OnceW (W : World) (c g : Nat) (f : Nat → Int) (L : List Pr) (w : World) : Prop where
  cal : ∃ S, CalR W.heap.size S w L c ∧ ¬ S g
  whn : NumsO W.heap.size w (.slice (some ⟨g, 0, none⟩) 64 64) 64 f
  below : Below W.heap.size W w
section
variable {W w w' : World} {c g : Nat} {f : Nat → Int} {L L2 : List Pr} {S : Nat → Prop}
theorem OnceW.glt (h : OnceW W c g f L w) : W.heap.size ≤ g ∧ g < w.heap.size := World.ownsRow.lt h.whn g rfl
theorem OnceW.under (h : OnceW W c g f L w) (hb : Below w.heap.size w w') : OnceW W c g f L w' := by
  obtain ⟨⟨S, h1, h2⟩, h3, h4⟩ := h
  exact ⟨⟨S, h1.below hb, h2⟩, own_under h3 hb, bnext h4 hb⟩
theorem OnceW.turn (h : OnceW W c g f L w) (hc : CalR W.heap.size S w L c) (hn : ¬ S g) (ht : TurnC W.heap.size S w L2 c w') : OnceW W c g f L2 w' := by
  have hu := ht.under h.below hc
  obtain ⟨S', h1, hk, hS⟩ := ht
  refine ⟨⟨S', h1, fun hs => ?_⟩, own_keep h.whn hk (fun b e => by cases e; exact hn), hu⟩
  rcases hS g hs with k | k
  · exact hn k
  · have := h.glt.2; omega
theorem OnceW.set (h : OnceW W c g f L w) (i : Nat) (x : Int) : OnceW W c g (upd f i x) L (w.setCell ⟨g, i, none⟩ (.int .i64 x)) := by
  obtain ⟨⟨S, h1, h2⟩, h3, h4⟩ := h
  have hg := (World.ownsRow.lt h3 g rfl).1
  exact ⟨⟨S, h1.keeps (Q := fun x => x = g) ((Keeps.refl _ w).setCell ⟨g, i, none⟩ _ (.inl rfl)) (fun x hx e => h2 (e ▸ hx)), h2⟩, num_set h3 i x, h4.setCell (p := ⟨g, i, none⟩) hg _⟩
theorem OnceW.at (h : OnceW W c g f L w) {i : Nat} (hi : i < 64) : w.cell? ⟨g, i, none⟩ = some (.int .i64 (f i)) ∧ w.frozen? ⟨g, i, none⟩ = false := ⟨num_at h.whn hi, World.ownsRow.frozenAt h.whn i⟩
theorem OnceW.put (h : OnceW W c g f L w) {i : Nat} (hi : i < 64) {a : Int} (ha : 0 ≤ a) (h4 : L.length ≤ 4000) :
    Calls Try.prog 5 #[.pointer (some ⟨c, 0, none⟩), .int .i64 (i : Nat), .int .i64 a] w fun e w' => e = .returned .nilIface ∧ OnceW W c g f (putL (i : Nat) a L) w' := by
  have h0 := h
  obtain ⟨⟨S, h1, h2⟩, h3, hb⟩ := h
  exact (cput_yes h1 (i : Nat) a ⟨by omega, by omega⟩ (by omega) ha h4 hb.size).mono fun e w' ⟨he, ht⟩ => ⟨he, h0.turn h1 h2 ht⟩
/-- Due's answer beside it. -/
def DueW (W : World) (c g : Nat) (f : Nat → Int) (L L2 : List Pr) (K : Nat) (v : Value) (w : World) : Prop := OnceW W c g f L2 w ∧ NumR W.heap.size w v L K ∧ ∀ b, v.ownBlock = some b → b ≠ g
theorem OnceW.due (h : OnceW W c g f L w) (hg : Cal.Good L) (h4 : L.length ≤ 4000) (till : Int) :
    Calls Try.prog 6 #[.pointer (some ⟨c, 0, none⟩), .int .i64 till] w fun e w' => ∃ p cp, e = .returned (.slice p (dueN till L) cp) ∧ DueW W c g f L (L.drop (dueN till L)) (dueN till L) (.slice p (dueN till L) cp) w' := by
  have h0 := h
  obtain ⟨⟨S, h1, h2⟩, h3, hb⟩ := h
  exact (cdue_any h1 hg (by omega) till).mono fun e w' ⟨v, he, hn, ht⟩ => by
    obtain ⟨p, cp, rfl, _⟩ := own_small hn
    exact ⟨p, cp, he, h0.turn h1 h2 ht.turn, own_base2 hn hb.size, fun b e2 e3 => by
      have := (World.ownsRow.lt hn b e2).1
      have := h0.glt.2
      omega⟩
theorem DueW.under {K : Nat} {v : Value} (h : DueW W c g f L L2 K v w) (hb : Below w.heap.size w w') : DueW W c g f L L2 K v w' := ⟨h.1.under hb, own_under h.2.1 hb, h.2.2⟩
theorem DueW.set {K : Nat} {v : Value} (h : DueW W c g f L L2 K v w) (i : Nat) (x : Int) : DueW W c g (upd f i x) L L2 K v (w.setCell ⟨g, i, none⟩ (.int .i64 x)) :=
  ⟨h.1.set i x, own_keep h.2.1 (S := fun x => x = g) ((Keeps.refl _ w).setCell ⟨g, i, none⟩ _ (.inl rfl)) (fun b e => h.2.2 b e), h.2.2⟩
theorem DueW.at {K : Nat} {p : Option Addr} {n cp : Nat} (h : DueW W c g f L L2 K (.slice p n cp) w) (hK : K ≤ L.length) {k : Nat} (hk : k < K) : ∃ b, p = some ⟨b, 0, none⟩ ∧ w.cell? ⟨b, k, none⟩ = some (.int .i64 (L[k]'(by omega)).1) := by
  obtain ⟨b, cp', e, _, _⟩ := own_block2 h.2.1 (by omega)
  cases e
  refine ⟨b, rfl, (World.ownsRow.cellAt h.2.1 k (by omega)).trans ?_⟩
  unfold idsL
  simp [hk, show k < L.length by omega]
end
end Go.Proofs.Ytknhjbfhkfngeaa
