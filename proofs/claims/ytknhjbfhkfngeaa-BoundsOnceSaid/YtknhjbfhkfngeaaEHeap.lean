/- The cells of a heap's entries, a heap as one thing in a world, what an exchange of two entries makes of it; nothing of the program is walked here; no condition but those that each row names. -/
import Derived.Test.YtknhjbfhkfngeaaEMem
namespace Go.Proofs.Ytknhjbfhkfngeaa
open Go.RowKit Go.Maps Hp

section
variable {α : Type} (enc : α → Value)
/-- The cells of entries. -/
def cells2 : List (Int × α) → List Value
  | [] => []
  | e :: r => .int .i64 e.1 :: enc e.2 :: cells2 r
theorem cells2_append (a b : List (Int × α)) : cells2 enc (a ++ b) = cells2 enc a ++ cells2 enc b := by
  induction a with
  | nil => rfl
  | cons e r ih => simp [cells2, ih]
theorem cells2_len : ∀ l : List (Int × α), (cells2 enc l).length = l.length * 2
  | [] => rfl
  | e :: r => by simp [cells2, cells2_len r]; omega
theorem cells2_take : ∀ (l : List (Int × α)) (m : Nat), (cells2 enc l).take (m * 2) = cells2 enc (l.take m)
  | [], m => by simp [cells2]
  | e :: r, 0 => by simp [cells2]
  | e :: r, m + 1 => by
    have ih := cells2_take r m
    simp only [cells2, List.take_succ_cons, show (m + 1) * 2 = m * 2 + 1 + 1 from by omega, ih]
theorem cells2_at : ∀ (l : List (Int × α)) (i : Nat) (h : i < l.length), (cells2 enc l)[i * 2]? = some (.int .i64 l[i].1) ∧ (cells2 enc l)[i * 2 + 1]? = some (enc l[i].2)
  | e :: r, 0, _ => by simp [cells2]
  | e :: r, i + 1, h => by
    have ih := cells2_at r i (by simpa using h)
    simp only [cells2, show (i + 1) * 2 = i * 2 + 1 + 1 from by omega, List.getElem?_cons_succ, List.getElem_cons_succ]
    exact ⟨ih.1, ih.2⟩
theorem cells2_set : ∀ (l : List (Int × α)) (i : Nat) (e : Int × α), cells2 enc (l.set i e) = ((cells2 enc l).set (i * 2) (.int .i64 e.1)).set (i * 2 + 1) (enc e.2)
  | [], i, e => by simp [cells2]
  | x :: r, 0, e => by simp [cells2]
  | x :: r, i + 1, e => by
    have ih := cells2_set r i e
    simp only [List.set_cons_succ, cells2, ih, show (i + 1) * 2 = i * 2 + 1 + 1 from by omega]
theorem cells2_one (he : ∀ x, (enc x).oneCell' = true) : ∀ (l : List (Int × α)), ∀ u ∈ cells2 enc l, u.oneCell' = true
  | [], u, hu => by simp [cells2] at hu
  | e :: r, u, hu => by
    simp only [cells2, List.mem_cons] at hu
    rcases hu with rfl | rfl | hu
    · rfl
    · exact he _
    · exact cells2_one he r u hu
/-- The row of entries. -/
def ERow (E : TypeId) (w : World) (L : List (Int × α)) (g cap : Nat) : Prop := ∃ cur, Row E w g cur ∧ cur.length = cap * 2 ∧ cur.take (L.length * 2) = cells2 enc L
theorem take_set_lt (l : List Value) (n i : Nat) (v : Value) : (l.set i v).take n = (l.take n).set i v := by
  apply List.ext_getElem?
  intro k
  simp only [List.getElem?_take, List.getElem?_set, List.length_take]
  by_cases h1 : k < n
  · by_cases h2 : i = k
    · subst h2
      by_cases h3 : i < l.length
      · simp [h1, h3]; omega
      · simp [h3]; omega
    · simp [h1, h2]
  · by_cases h2 : i = k
    · subst h2; simp [h1]; omega
    · simp [h1, h2]
theorem Row.set {E : TypeId} {g : Nat} {w : World} {cur : List Value} (h : Row E w g cur) (o : Nat) (v : Value) : Row E (w.setCell ⟨g, o, none⟩ v) g (cur.set o v) := by
  unfold Row
  rw [heap_setCell_same _ _ _ _ _ _ h]
  simp
/-- The store of an entry. -/
theorem ERow.set {E : TypeId} {w : World} {L : List (Int × α)} {g cap : Nat} (h : ERow enc E w L g cap) (i : Nat) (e : Int × α) :
    ERow enc E ((w.setCell ⟨g, i * 2, none⟩ (.int .i64 e.1)).setCell ⟨g, i * 2 + 1, none⟩ (enc e.2)) (L.set i e) g cap := by
  obtain ⟨cur, hr, hl, ht⟩ := h
  refine ⟨_, (hr.set _ _).set _ _, by simpa using hl, ?_⟩
  rw [List.length_set, take_set_lt, take_set_lt, ht, cells2_set]
theorem ERow.drew {E : TypeId} {w : World} {L : List (Int × α)} {g cap : Nat} (h : ERow enc E w L g cap) : ERow enc E w.drew L g cap := h
theorem ERow.cells {E : TypeId} {w : World} {L : List (Int × α)} {g cap : Nat} (h : ERow enc E w L g cap) (i : Nat) (hi : i < L.length) :
    w.cell? ⟨g, i * 2, none⟩ = some (.int .i64 L[i].1) ∧ w.cell? ⟨g, i * 2 + 1, none⟩ = some (enc L[i].2) ∧ w.frozen? ⟨g, i * 2, none⟩ = false ∧ w.frozen? ⟨g, i * 2 + 1, none⟩ = false := by
  obtain ⟨cur, hr, hl, ht⟩ := h
  obtain ⟨c0, c1⟩ := cells2_at enc L i hi
  rw [← ht, List.getElem?_take, if_pos (by omega)] at c0 c1
  exact ⟨(hr.cell _).trans c0, (hr.cell _).trans c1, hr.free _, hr.free _⟩
theorem ERow.lt {E : TypeId} {w : World} {L : List (Int × α)} {g cap : Nat} (h : ERow enc E w L g cap) : g < w.heap.size := by obtain ⟨cur, hr, _⟩ := h; exact hr.lt
theorem ERow.keeps {E : TypeId} {w w' : World} {L : List (Int × α)} {g cap : Nat} {S : Nat → Prop} (h : ERow enc E w L g cap) (hk : Keeps S w w') (hn : ¬ S g) : ERow enc E w' L g cap := by
  obtain ⟨cur, hr, hl, ht⟩ := h
  exact ⟨cur, (hk.block g hr.lt hn).trans hr, hl, ht⟩
theorem ERow.own {E : TypeId} {w : World} {L : List (Int × α)} {g cap B : Nat} (h : ERow enc E w L g cap) (hB : B ≤ g) (hn : L.length ≤ cap) (hc : cap ≤ maxLen) : w.ownsRow B E 2 (.slice (some ⟨g, 0, none⟩) L.length cap) L.length (cells2 enc L) := by
  obtain ⟨cur, hr, hl, ht⟩ := h
  exact own_of_row hr hB hn hc hl ht
theorem ERow.of_own {E : TypeId} {w : World} {L : List (Int × α)} {g cap B n : Nat} (hn : L.length = n) (h : w.ownsRow B E 2 (.slice (some ⟨g, 0, none⟩) n cap) n (cells2 enc L)) : ERow enc E w L g cap ∧ B ≤ g ∧ n ≤ cap ∧ cap ≤ maxLen := by
  subst hn
  obtain ⟨cur, hr, hB, hn, hc, hl, ht⟩ := row_of_own h
  exact ⟨⟨cur, hr, hl, ht⟩, hB, hn, hc⟩

/-- A heap that has been used: its block b, its row g, its map mb. -/
structure HW (T E : TypeId) (B : Nat) (w : World) (L : List (Int × α)) (b g cap mb : Nat) : Prop where
  blk : w.heap[b]? = some (.cells #[.slice (some ⟨g, 0, none⟩) L.length cap, .map (some mb)] T (0, 0))
  row : ERow enc E w L g cap
  hn : L.length ≤ cap
  hc : cap ≤ maxLen
  mp : Places w mb L
  hb : B ≤ b
  hg : B ≤ g
  hm : B ≤ mb
  bg : b ≠ g
  bm : b ≠ mb
  gm : g ≠ mb
  ids : ∀ e ∈ L, In64 e.1
  n4 : L.length ≤ 4096
variable {enc} {T E : TypeId} {B : Nat} {w : World} {L : List (Int × α)} {b g cap mb : Nat}
theorem HW.f0 (h : HW enc T E B w L b g cap mb) : w.cell? ⟨b, 0, none⟩ = some (.slice (some ⟨g, 0, none⟩) L.length cap) := by rw [cell_of_row _ _ _ _ _ _ h.blk]; rfl
theorem HW.f1 (h : HW enc T E B w L b g cap mb) : w.cell? ⟨b, 1, none⟩ = some (.map (some mb)) := by rw [cell_of_row _ _ _ _ _ _ h.blk]; rfl
theorem HW.fz (h : HW enc T E B w L b g cap mb) (j : Nat) : w.frozen? ⟨b, j, none⟩ = false := frozen_of_row _ _ _ _ _ h.blk
theorem HW.lt (h : HW enc T E B w L b g cap mb) : b < w.heap.size := lt_of_block h.blk
theorem HW.nodup (h : HW enc T E B w L b g cap mb) {i j : Nat} (hi : i < L.length) (hj : j < L.length) (e : L[i].1 = L[j].1) : i = j := by
  obtain ⟨D, _, _, hs⟩ := h.mp
  exact hs.inj hi hj e
theorem HW.keeps {w' : World} {S : Nat → Prop} (h : HW enc T E B w L b g cap mb) (hk : Keeps S w w') (h1 : ¬ S b) (h2 : ¬ S g) (h3 : ¬ S mb) : HW enc T E B w' L b g cap mb :=
  ⟨(hk.block b h.lt h1).trans h.blk, h.row.keeps enc hk h2, h.hn, h.hc, h.mp.keeps hk h3, h.hb, h.hg, h.hm, h.bg, h.bm, h.gm, h.ids, h.n4⟩
theorem HW.below {w' : World} (h : HW enc T E B w L b g cap mb) (hk : Below w.heap.size w w') : HW enc T E B w' L b g cap mb :=
  h.keeps (S := fun _ => False) (Keeps.of_below hk) (fun k => k) (fun k => k) (fun k => k)
/-- Behind an exchange. -/
theorem HW.turn {w' : World} {L' : List (Int × α)} (h : HW enc T E B w L b g cap mb) (hk : Keeps (fun x => x = g ∨ x = mb) w w') (hp : L'.Perm L) (hr : ERow enc E w' L' g cap) (hm : Places w' mb L') : HW enc T E B w' L' b g cap mb :=
  ⟨by rw [hp.length_eq]; exact (hk.block b h.lt (by rintro (e | e); exact h.bg e; exact h.bm e)).trans h.blk, hr, hp.length_eq ▸ h.hn, h.hc, hm, h.hb, h.hg, h.hm, h.bg, h.bm, h.gm, fun e he => h.ids e (hp.mem_iff.1 he), hp.length_eq ▸ h.n4⟩
theorem keeps_grown {w w' : World} {mb : Nat} (h : w.grownBy w' (some mb)) : Keeps (fun x => x = mb) w w' := (Keeps.refl _ w).grown h (fun k e => .inl (by cases e; rfl))
theorem keeps_turned {w w' : World} {mb : Nat} (h : w.mapTurned w' mb) : Keeps (fun x => x = mb) w w' := keeps_grown h.grown
end
end Go.Proofs.Ytknhjbfhkfngeaa
