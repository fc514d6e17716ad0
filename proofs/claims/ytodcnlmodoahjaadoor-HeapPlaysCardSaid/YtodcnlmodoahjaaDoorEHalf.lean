/- The heap beside the document's list, while the law plays: what each call keeps; plain words; no condition but those that each row names. -/
import Derived.Test.YtodcnlmodoahjaaDoorEAux
import Derived.Test.YtodcnlmodoahjaaDoorEMove
namespace Go.Proofs.YtodcnlmodoahjaaDoor
open Go.RowKit Go.Maps Hp

/-- The heap has the entries R1; the document's list v is R, in order; block q, none of theirs, holds o. -/
structure Half (W : World) (b q : Nat) (o : Obj) (v : Value) (R R1 : List (Int × Int)) (w : World) : Prop where
  hp : ∃ S, HpR kc_I enc_I HT_I NT_I W.heap.size S w R1 b ∧ (∀ g, v.ownBlock = some g → ¬ S g) ∧ ¬ S q
  its : Its w v R
  sorted : R.Pairwise (le (ahB kc_I))
  below : Below W.heap.size W w
  ob : w.heap[q]? = some o
section
variable {W : World} {b q : Nat} {o : Obj} {v : Value} {R R1 R2 : List (Int × Int)} {w w' : World} {S : Nat → Prop}
theorem Half.qlt (h : Half W b q o v R R1 w) : q < w.heap.size := (Array.getElem?_eq_some_iff.1 h.ob).1
theorem Half.under (h : Half W b q o v R R1 w) (hb : Below w.heap.size w w') : Half W b q o v R R1 w' := by
  have hq := h.qlt
  obtain ⟨⟨S, h1, h2, h6⟩, h3, h4, h5, h7⟩ := h
  exact ⟨⟨S, h1.below hb, h2, h6⟩, h3.below hb, h4, bnext h5 hb, (hb.block q hq).trans h7⟩
theorem Half.perm (h : Half W b q o v R R1 w) (hp : R1.Perm R2) : Half W b q o v R R2 w := by
  obtain ⟨⟨S, h1, h2⟩, h3, h4, h5, h7⟩ := h
  exact ⟨⟨S, h1.perm hp, h2⟩, h3, h4, h5, h7⟩
theorem Half.come (h : Half W b q o v R R1 w) (hs : HpR kc_I enc_I HT_I NT_I W.heap.size S w R1 b) (hd : ∀ g, v.ownBlock = some g → ¬ S g) (hq : ¬ S q) (hc : Come kc_I enc_I HT_I NT_I W.heap.size S w R2 b w') : Half W b q o v R R2 w' := by
  have hu := Come.under h.below hs h.below.size hc
  obtain ⟨S', h1, hk, hS⟩ := hc
  refine ⟨⟨S', h1, fun g e hg => ?_, fun hg => ?_⟩, own_keeps h.its hk hd, h.sorted, hu, (hk.block q h.qlt hq).trans h.ob⟩
  · rcases hS g hg with h2 | h2
    · exact hd g e h2
    · have := (h.its.lt g e).2; omega
  · rcases hS q hg with h2 | h2
    · exact hq h2
    · have := h.qlt; omega
theorem Half.gone (h : Half W b q o v R R1 w) (hs : HpR kc_I enc_I HT_I NT_I W.heap.size S w R1 b) (hd : ∀ g, v.ownBlock = some g → ¬ S g) (hq : ¬ S q) (hc : Gone kc_I enc_I HT_I NT_I W.heap.size S w R2 b w') : Half W b q o v R R2 w' :=
  ⟨⟨S, hc.1, hd, hq⟩, own_keeps h.its hc.2 hd, h.sorted, h.below.trans (hs.under h.below.size hc.2), (hc.2.block q h.qlt hq).trans h.ob⟩
theorem Half.ref {v' : Value} {L : List (Int × Int)} (h : Half W b q o v R R1 w) (hi : Its w' v' L) (hb : Below w.heap.size w w') (hf : ∀ g, v'.ownBlock = some g → v.ownBlock = some g ∨ w.heap.size ≤ g) (hs : L.Pairwise (le (ahB kc_I))) : Half W b q o v' L R1 w' := by
  have hq := h.qlt
  obtain ⟨⟨S, h1, h2, h6⟩, h3, h4, h5, h7⟩ := h
  refine ⟨⟨S, h1.below hb, fun g e hg => ?_, h6⟩, hi, hs, bnext h5 hb, (hb.block q hq).trans h7⟩
  rcases hf g e with k | k
  · exact h2 g k hg
  · have := h1.lt g hg; omega
theorem Half.box (h : Half W b q o v R R1 w) (c : Array Value) (t : TypeId) : Half W b w.heap.size (.cells c t (0, 0)) v R R1 (w.alloc (.cells c t)) := by
  have hb : Below w.heap.size w (w.alloc (.cells c t)) := (Below.refl _ _).alloc (Nat.le_refl _) _
  obtain ⟨⟨S, h1, h2, h6⟩, h3, h4, h5, h7⟩ := h
  exact ⟨⟨S, h1.below hb, h2, fun hg => by have := h1.lt _ hg; omega⟩, h3.below hb, h4, bnext h5 hb, heap_alloc_new w _⟩
theorem Half.cell {c : Array Value} {t : TypeId} (h : Half W b q (.cells c t (0, 0)) v R R1 w) (j : Nat) : w.cell? ⟨q, j, none⟩ = c[j]? := cell_of_row _ _ _ _ _ _ h.ob
theorem Half.nodup (h : Half W b q o v R R w) : (R.map (·.1)).Nodup := by
  obtain ⟨⟨S, h1, _⟩, _⟩ := h
  exact h1.nodup
end

/-! Lists in order. -/
theorem first_at {R : List (Int × Int)} (hn : (R.map (·.1)).Nodup) {i : Nat} (hi : i < R.length) : FirstAt R R[i].1 i := by
  refine ⟨hi, rfl, fun j hj hji e => ?_⟩
  have := List.pairwise_iff_getElem.1 hn j i (by simpa using hj) (by simpa using hi) hji
  simp [e] at this
theorem rest_no {R : List (Int × Int)} (hn : (R.map (·.1)).Nodup) {i : Nat} (hi : i < R.length) : ∀ e ∈ R.eraseIdx i, e.1 ≠ R[i].1 := by
  intro e he h
  have hp := (get_perm R i hi).map (·.1)
  have h2 := hp.nodup_iff.1 hn
  simp only [List.map_cons, List.nodup_cons] at h2
  exact h2.1 (h ▸ List.mem_map_of_mem he)
theorem goes_sorted {R : List (Int × Int)} {x : Int × Int} {k : Nat} (hs : R.Pairwise (le (ahB kc_I))) (h : GoesAt R x k) : (R.take k ++ x :: R.drop k).Pairwise (le (ahB kc_I)) := by
  obtain ⟨hk, h1, h2⟩ := h
  have hta : ∀ a ∈ R.take k, le (ahB kc_I) a x := fun a ha => by
    obtain ⟨j, hj, rfl⟩ := List.mem_take_iff_getElem.1 ha
    exact ord_I.le_of (h1 j (by omega) (by omega))
  have hd : ∀ y ∈ R.drop k, le (ahB kc_I) x y := fun y hy => by
    obtain ⟨j, hj, rfl⟩ := List.mem_drop_iff_getElem.1 hy
    have hkl : k < R.length := by omega
    have h3 : le (ahB kc_I) x R[k] := h2 hkl
    by_cases e : j = 0
    · subst e; simpa using h3
    · exact ord_I.le_trans h3 (List.pairwise_iff_getElem.1 hs k (k + j) hkl (by omega) (by omega))
  refine List.pairwise_append.2 ⟨hs.sublist (List.take_sublist ..), List.pairwise_cons.2 ⟨hd, hs.sublist (List.drop_sublist ..)⟩, fun a ha c hc => ?_⟩
  rcases List.mem_cons.1 hc with rfl | hc
  · exact hta a ha
  · exact ord_I.le_trans (hta a ha) (hd c hc)
theorem goes_perm {R : List (Int × Int)} {x : Int × Int} {k : Nat} : (x :: R).Perm (R.take k ++ x :: R.drop k) := by
  have h : (R.take k ++ R.drop k) = R := List.take_append_drop k R
  have := (List.perm_middle (a := x) (l₁ := R.take k) (l₂ := R.drop k)).symm
  rwa [h] at this
theorem sorted_erase {R : List (Int × Int)} (hs : R.Pairwise (le (ahB kc_I))) (i : Nat) : (R.eraseIdx i).Pairwise (le (ahB kc_I)) := hs.sublist (List.eraseIdx_sublist ..)
/-- A number is there, or it is not. -/
theorem there_or (R : List (Int × Int)) (id : Int) : (∃ i, ∃ h : i < R.length, R[i].1 = id) ∨ ∀ e ∈ R, e.1 ≠ id := by
  by_cases h : ∃ e ∈ R, e.1 = id
  · left
    obtain ⟨e, he, rfl⟩ := h
    obtain ⟨i, hi, rfl⟩ := List.getElem_of_mem he
    exact ⟨i, hi, rfl⟩
  · right
    intro e he h2
    exact h ⟨e, he, h2⟩

/-! The law's calls. -/
section
variable {W : World} {b q : Nat} {o : Obj} {v : Value} {R R1 : List (Int × Int)} {w : World}
abbrev eno (n : Int) : Value := .iface 53 (.int .i64 n)
theorem c_push_in (h : Half W b q o v R R w) {i : Nat} (hi : i < R.length) {id : Int} (he : R[i].1 = id) (key : Int) :
    Calls Tryd.prog 6 #[.pointer (some ⟨b, 0, none⟩), .int .i64 id, .int .i64 key] w (fun e w' => e = .returned (eno 1) ∧ Half W b q o v R R w') := by
  have h0 := h
  obtain ⟨⟨S, h1, h2, h6⟩, _⟩ := h
  exact (push_again_I h1 id key ⟨R[i], List.getElem_mem hi, he⟩).mono fun e w' ⟨he, hw⟩ => ⟨he, hw ▸ h0⟩
theorem c_push_new (h : Half W b q o v R R w) {id : Int} (hid : In64 id) (hno : ∀ e ∈ R, e.1 ≠ id) (key : Int) (hn : R.length ≤ 4095) :
    Calls Tryd.prog 6 #[.pointer (some ⟨b, 0, none⟩), .int .i64 id, .int .i64 key] w (fun e w' => e = .returned .nilIface ∧ Half W b q o v R ((id, key) :: R) w') := by
  have h0 := h
  obtain ⟨⟨S, h1, h2, h6⟩, _, _, h5⟩ := h
  exact (push_I h1 id key hid hno (by omega) h5.size).mono fun e w' ⟨he, hc⟩ => ⟨he, h0.come h1 h2 h6 hc⟩
theorem r_push_in (h : Half W b q o v R R w) {i : Nat} (hi : i < R.length) {id : Int} (he : R[i].1 = id) (key : Int) (hn : R.length ≤ 4095) :
    Calls Tryd.prog 7 #[v, .int .i64 id, .int .i64 key] w (fun e w' => ∃ v', e = .returned (.tuple #[v', .int .i64 1]) ∧ Half W b q o v' R R w') :=
  (rpush_no w v R h.its (by omega) id key i (he ▸ first_at h.nodup hi)).mono fun e w' ⟨v', he, h1, h2, h3⟩ => ⟨v', he, h.ref h1 h2 h3 h.sorted⟩
theorem r_push_new {id key : Int} (h : Half W b q o v R ((id, key) :: R) w) (hno : ∀ e ∈ R, e.1 ≠ id) (hn : R.length ≤ 4095) :
    Calls Tryd.prog 7 #[v, .int .i64 id, .int .i64 key] w (fun e w' => ∃ v' R', e = .returned (.tuple #[v', .int .i64 0]) ∧ Half W b q o v' R' R' w' ∧ R'.length = R.length + 1) :=
  (rpush_yes w v R h.its (by omega) id key hno).mono fun e w' ⟨k, hk, v', he, h1, h2, h3⟩ => ⟨v', _, he, (h.ref h1 h2 h3 (goes_sorted h.sorted hk)).perm goes_perm, by have := hk.1; simp; omega⟩
theorem c_drop_no (h : Half W b q o v R R w) {id : Int} (hid : In64 id) (hno : ∀ e ∈ R, e.1 ≠ id) :
    Calls Tryd.prog 10 #[.pointer (some ⟨b, 0, none⟩), .int .i64 id] w (fun e w' => e = .returned (eno 50) ∧ Half W b q o v R R w') := by
  have h0 := h
  obtain ⟨⟨S, h1, h2, h6⟩, _⟩ := h
  exact (drop_gone h1 id hid hno).mono fun e w' ⟨he, hw⟩ => ⟨he, hw ▸ h0⟩
theorem c_drop_in (h : Half W b q o v R R w) {i : Nat} (hi : i < R.length) {id : Int} (he : R[i].1 = id) :
    Calls Tryd.prog 10 #[.pointer (some ⟨b, 0, none⟩), .int .i64 id] w (fun e w' => e = .returned .nilIface ∧ Half W b q o v R (R.eraseIdx i) w') := by
  have h0 := h
  obtain ⟨⟨S, h1, h2, h6⟩, _⟩ := h
  refine (drop_there h1 id R[i].2 (R.eraseIdx i) ?_).mono fun e w' ⟨he, hc⟩ => ⟨he, h0.gone h1 h2 h6 hc⟩
  have := get_perm R i hi
  rwa [show R[i] = (id, R[i].2) from by rw [← he]] at this
theorem r_drop_no (h : Half W b q o v R R1 w) (hn : R.length ≤ 4095) {id : Int} (hno : ∀ e ∈ R, e.1 ≠ id) :
    Calls Tryd.prog 11 #[v, .int .i64 id] w (fun e w' => ∃ v', e = .returned (.tuple #[v', .int .i64 50]) ∧ Half W b q o v' R R1 w') :=
  (rdrop_no w v R h.its (by omega) id hno).mono fun e w' ⟨v', he, h1, h2, h3⟩ => ⟨v', he, h.ref h1 h2 h3 h.sorted⟩
theorem r_drop_in (h : Half W b q o v R R1 w) (hnd : (R.map (·.1)).Nodup) (hn : R.length ≤ 4095) {i : Nat} (hi : i < R.length) {id : Int} (he : R[i].1 = id) (hR : R1.Perm (R.eraseIdx i)) :
    Calls Tryd.prog 11 #[v, .int .i64 id] w (fun e w' => ∃ v' R', e = .returned (.tuple #[v', .int .i64 0]) ∧ Half W b q o v' R' R' w' ∧ R'.length ≤ R.length) :=
  (rdrop_yes w v R h.its (by omega) id i (he ▸ first_at hnd hi)).mono fun e w' ⟨v', he, h1, h2, h3⟩ => ⟨v', _, he, (h.ref h1 h2 h3 (sorted_erase h.sorted i)).perm hR, List.length_eraseIdx_le ..⟩
theorem c_move_no (h : Half W b q o v R R w) {id : Int} (hid : In64 id) (hno : ∀ e ∈ R, e.1 ≠ id) (key : Int) :
    Calls Tryd.prog 8 #[.pointer (some ⟨b, 0, none⟩), .int .i64 id, .int .i64 key] w (fun e w' => e = .returned (eno 50) ∧ Half W b q o v R R w') := by
  have h0 := h
  obtain ⟨⟨S, h1, h2, h6⟩, _⟩ := h
  exact (move_gone h1 id key hid hno).mono fun e w' ⟨he, hw⟩ => ⟨he, hw ▸ h0⟩
theorem c_move_in (h : Half W b q o v R R w) {i : Nat} (hi : i < R.length) {id : Int} (he : R[i].1 = id) (key : Int) :
    Calls Tryd.prog 8 #[.pointer (some ⟨b, 0, none⟩), .int .i64 id, .int .i64 key] w (fun e w' => e = .returned .nilIface ∧ Half W b q o v R ((id, key) :: R.eraseIdx i) w') := by
  have h0 := h
  obtain ⟨⟨S, h1, h2, h6⟩, _⟩ := h
  refine (move_there h1 id R[i].2 key (R.eraseIdx i) ?_).mono fun e w' ⟨he, hc⟩ => ⟨he, h0.gone h1 h2 h6 hc⟩
  have := get_perm R i hi
  rwa [show R[i] = (id, R[i].2) from by rw [← he]] at this
theorem r_move_no (h : Half W b q o v R R w) (hn : R.length ≤ 4095) {id : Int} (hno : ∀ e ∈ R, e.1 ≠ id) (key : Int) :
    Calls Tryd.prog 9 #[v, .int .i64 id, .int .i64 key] w (fun e w' => ∃ v', e = .returned (.tuple #[v', .int .i64 50]) ∧ Half W b q o v' R R w') :=
  (rmove_no w v R h.its (by omega) id key hno).mono fun e w' ⟨v', he, h1, h2, h3⟩ => ⟨v', he, h.ref h1 h2 h3 h.sorted⟩
theorem r_move_in {i : Nat} {id key : Int} (h : Half W b q o v R ((id, key) :: R.eraseIdx i) w) (hnd : (R.map (·.1)).Nodup) (hn : R.length ≤ 4095) (hi : i < R.length) (he : R[i].1 = id) :
    Calls Tryd.prog 9 #[v, .int .i64 id, .int .i64 key] w (fun e w' => ∃ v' R', e = .returned (.tuple #[v', .int .i64 0]) ∧ Half W b q o v' R' R' w' ∧ R'.length ≤ R.length) :=
  (rmove_yes w v R h.its (by omega) id key i (he ▸ first_at hnd hi) (he ▸ rest_no hnd hi)).mono fun e w' ⟨k, hk, v', he, h1, h2, h3⟩ => ⟨v', _, he, (h.ref h1 h2 h3 (goes_sorted (sorted_erase h.sorted i) hk)).perm goes_perm, by
    have := hk.1
    have h9 := List.length_eraseIdx (l := R) (i := i)
    rw [if_pos hi] at h9
    simp only [List.length_append, List.length_take, List.length_cons, List.length_drop]
    omega⟩
theorem c_key_in (h : Half W b q o v R R w) {i : Nat} (hi : i < R.length) {id : Int} (he : R[i].1 = id) :
    Calls Tryd.prog 14 #[.pointer (some ⟨b, 0, none⟩), .int .i64 id] w (fun e w' => e = .returned (.tuple #[.int .i64 R[i].2, .bool true]) ∧ Half W b q o v R R w') := by
  have h0 := h
  obtain ⟨⟨S, h1, h2, h6⟩, _⟩ := h
  exact (key_yes h1 id R[i].2 (by rw [← he]; exact List.getElem_mem hi)).mono fun e w' ⟨he, hb⟩ => ⟨he, h0.under hb⟩
theorem c_key_no (h : Half W b q o v R R w) {id : Int} (hid : In64 id) (hno : ∀ e ∈ R, e.1 ≠ id) :
    Calls Tryd.prog 14 #[.pointer (some ⟨b, 0, none⟩), .int .i64 id] w (fun e w' => e = .returned (.tuple #[.int .i64 0, .bool false]) ∧ Half W b q o v R R w') := by
  have h0 := h
  obtain ⟨⟨S, h1, h2, h6⟩, _⟩ := h
  exact (key_no h1 id hid hno).mono fun e w' ⟨he, hb⟩ => ⟨he, h0.under hb⟩
theorem r_key_in (h : Half W b q o v R R w) (hn : R.length ≤ 4095) {i : Nat} (hi : i < R.length) {id : Int} (he : R[i].1 = id) :
    Calls Tryd.prog 15 #[v, .int .i64 id] w (fun e w' => e = .returned (.tuple #[.int .i64 R[i].2, .bool true]) ∧ Half W b q o v R R w') :=
  (rkey_yes w v R h.its (by omega) id i (he ▸ first_at h.nodup hi) R[i].2 rfl).mono fun e w' ⟨he, hb⟩ => ⟨he, h.under hb⟩
theorem r_key_no (h : Half W b q o v R R w) (hn : R.length ≤ 4095) {id : Int} (hno : ∀ e ∈ R, e.1 ≠ id) :
    Calls Tryd.prog 15 #[v, .int .i64 id] w (fun e w' => e = .returned (.tuple #[.int .i64 0, .bool false]) ∧ Half W b q o v R R w') :=
  (rkey_no w v R h.its (by omega) id hno).mono fun e w' ⟨he, hb⟩ => ⟨he, h.under hb⟩
theorem c_pop_no (h : Half W b q o v [] [] w) :
    Calls Tryd.prog 12 #[.pointer (some ⟨b, 0, none⟩)] w (fun e w' => e = .returned (.tuple #[.int .i64 0, .int .i64 0, .bool false]) ∧ Half W b q o v [] [] w') := by
  have h0 := h
  obtain ⟨⟨S, h1, h2, h6⟩, _⟩ := h
  exact (pop_none_I h1).mono fun e w' ⟨he, hw⟩ => ⟨he, hw ▸ h0⟩
theorem c_pop {x : Int × Int} {r : List (Int × Int)} (h : Half W b q o v (x :: r) (x :: r) w) :
    Calls Tryd.prog 12 #[.pointer (some ⟨b, 0, none⟩)] w (fun e w' => e = .returned (.tuple #[.int .i64 x.1, .int .i64 x.2, .bool true]) ∧ Half W b q o v (x :: r) r w') := by
  have h0 := h
  obtain ⟨⟨S, h1, h2, h6⟩, _, h3, _⟩ := h
  exact (pop_I h1 x r (sorted_mn cmp_I h3) (List.Perm.refl _)).mono fun e w' ⟨he, hc⟩ => ⟨he, h0.gone h1 h2 h6 hc⟩
theorem c_min_no (h : Half W b q o v [] [] w) :
    Calls Tryd.prog 16 #[.pointer (some ⟨b, 0, none⟩)] w (fun e w' => e = .returned (.tuple #[.int .i64 0, .int .i64 0, .bool false]) ∧ Half W b q o v [] [] w') := by
  have h0 := h
  obtain ⟨⟨S, h1, h2, h6⟩, _⟩ := h
  exact (min_none_I h1).mono fun e w' ⟨he, hw⟩ => ⟨he, hw ▸ h0⟩
theorem c_min {x : Int × Int} {r : List (Int × Int)} (h : Half W b q o v (x :: r) (x :: r) w) :
    Calls Tryd.prog 16 #[.pointer (some ⟨b, 0, none⟩)] w (fun e w' => e = .returned (.tuple #[.int .i64 x.1, .int .i64 x.2, .bool true]) ∧ Half W b q o v (x :: r) (x :: r) w') := by
  have h0 := h
  obtain ⟨⟨S, h1, h2, h6⟩, _, h3, _⟩ := h
  exact (min_I h1 x (sorted_mn cmp_I h3)).mono fun e w' ⟨he, hb⟩ => ⟨he, h0.under hb⟩
theorem r_first_no (h : Half W b q o v [] R1 w) :
    Calls Tryd.prog 13 #[v] w (fun e w' => e = .returned (.tuple #[.int .i64 0, .int .i64 0, .bool false]) ∧ Half W b q o v [] R1 w') :=
  (first_none w v h.its).mono fun _ _ ⟨he, hb⟩ => ⟨he, h.under hb⟩
theorem r_first {x : Int × Int} {r : List (Int × Int)} (h : Half W b q o v (x :: r) R1 w) (hn : (x :: r).length ≤ 4095) :
    Calls Tryd.prog 13 #[v] w (fun e w' => e = .returned (.tuple #[.int .i64 x.1, .int .i64 x.2, .bool true]) ∧ Half W b q o v (x :: r) R1 w') :=
  (first_some w v x r h.its (by simp at hn; omega)).mono fun _ _ ⟨he, hb⟩ => ⟨he, h.under hb⟩
theorem c_len (h : Half W b q o v R R w) :
    Calls Tryd.prog 17 #[.pointer (some ⟨b, 0, none⟩)] w (fun e w' => e = .returned (.int .i64 R.length) ∧ w = w') := by
  obtain ⟨⟨S, h1, h2, h6⟩, _⟩ := h
  exact len_I h1
theorem c_num (h : Half W b q o v R R1 w) : Calls Tryd.prog 5 #[.nilIface] w (fun e w' => e = .returned (.int .i64 0) ∧ Half W b q o v R R1 w') :=
  (num_nil w).mono fun _ _ ⟨he, hb⟩ => ⟨he, h.under hb⟩
theorem c_nume (hL : LaidAt W) (h : Half W b q o v R R1 w) (n : Int) : Calls Tryd.prog 5 #[eno n] w (fun e w' => e = .returned (.int .i64 n) ∧ Half W b q o v R R1 w') :=
  (num_errno n w (hL.below h.below)).mono fun _ _ ⟨he, hb⟩ => ⟨he, h.under hb⟩
end
end Go.Proofs.YtodcnlmodoahjaaDoor
