/- The calendar beside the document's list, while the law plays: what each call keeps; no condition but those that each row names. -/
import Derived.Test.YtknhjbfhkfngeaaDoorNDue
import Derived.Test.YtknhjbfhkfngeaaDoorNRefC
import Derived.Test.YtknhjbfhkfngeaaDoorNSure
import Derived.Test.YtknhjbfhkfngeaaDoorNNum
namespace Go.Proofs.YtknhjbfhkfngeaaDoor
open Go.RowKit Go.Maps Hp Cal

/-- The calendar has L1; the document's list v is L; block q, none of theirs, holds o. -/
structure Half (W : World) (c q : Nat) (o : Obj) (v : Value) (L L1 : List Pr) (w : World) : Prop where
  cal : ∃ S, CalR W.heap.size S w L1 c ∧ (∀ g, v.ownBlock = some g → ¬ S g) ∧ ¬ S q
  its : Its w v L
  good : Cal.Good L
  good1 : Cal.Good L1
  below : Below W.heap.size W w
  ob : w.heap[q]? = some o
section
variable {W : World} {c q : Nat} {o : Obj} {v : Value} {L L1 L2 : List Pr} {w w' : World} {S : Nat → Prop}
theorem Half.qlt (h : Half W c q o v L L1 w) : q < w.heap.size := (Array.getElem?_eq_some_iff.1 h.ob).1
theorem Half.under (h : Half W c q o v L L1 w) (hb : Below w.heap.size w w') : Half W c q o v L L1 w' := by
  have hq := h.qlt
  obtain ⟨⟨S, h1, h2, h6⟩, h3, h4, h4', h5, h7⟩ := h
  exact ⟨⟨S, h1.below hb, h2, h6⟩, h3.below hb, h4, h4', bnext h5 hb, (hb.block q hq).trans h7⟩
theorem Half.box (h : Half W c q o v L L1 w) (x : Array Value) (t : TypeId) : Half W c w.heap.size (.cells x t (0, 0)) v L L1 (w.alloc (.cells x t)) := by
  have hb : Below w.heap.size w (w.alloc (.cells x t)) := (Below.refl _ _).alloc (Nat.le_refl _) _
  obtain ⟨⟨S, h1, h2, h6⟩, h3, h4, h4', h5, h7⟩ := h
  exact ⟨⟨S, h1.below hb, h2, fun hg => by have := h1.lt _ hg; omega⟩, h3.below hb, h4, h4', bnext h5 hb, heap_alloc_new w _⟩
theorem Half.cell {x : Array Value} {t : TypeId} (h : Half W c q (.cells x t (0, 0)) v L L1 w) (j : Nat) : w.cell? ⟨q, j, none⟩ = x[j]? := cell_of_row _ _ _ _ _ _ h.ob
theorem Half.turn (h : Half W c q o v L L1 w) (hc : CalR W.heap.size S w L1 c) (hd : ∀ g, v.ownBlock = some g → ¬ S g) (hq : ¬ S q) (ht : TurnC W.heap.size S w L2 c w') (hg : Cal.Good L2) : Half W c q o v L L2 w' := by
  have hu := ht.under h.below hc
  obtain ⟨S', h1, hk, hS⟩ := ht
  refine ⟨⟨S', h1, fun g e hs => ?_, fun hs => ?_⟩, own_keep h.its hk hd, h.good, hg, hu, (hk.block q h.qlt hq).trans h.ob⟩
  · rcases hS g hs with k | k
    · exact hd g e k
    · have := (World.ownsRow.lt h.its g e).2; omega
  · rcases hS q hs with k | k
    · exact hq k
    · have := h.qlt; omega
theorem Half.ref {n : Int} {e : Ending} (h : Half W c q o v L L1 w) (hr : RPost w v L2 n e w') (hg : Cal.Good L2) : ∃ v', e = .returned (.tuple #[v', .int .i64 n]) ∧ Half W c q o v' L2 L1 w' ∧ Half W c q o v L L1 w' := by
  obtain ⟨v', he, hi, hb, hf⟩ := hr
  have hq := h.qlt
  refine ⟨v', he, ?_, h.under hb⟩
  obtain ⟨⟨S, h1, h2, h6⟩, h3, h4, h4', h5, h7⟩ := h
  refine ⟨⟨S, h1.below hb, fun g eg hs => ?_, h6⟩, hi, hg, h4', bnext h5 hb, (hb.block q hq).trans h7⟩
  rcases hf g eg with k | k
  · exact h2 g k hs
  · have := h1.lt g hs; omega
abbrev eno (n : Int) : Value := .iface 61 (.int .i64 n)
theorem p_put_no (h : Half W c q o v L L1 w) {id a : Int} (hn : id < 0 ∨ a < 0) :
    Calls Tryd.prog 8 #[.pointer (some ⟨c, 0, none⟩), .int .i64 id, .int .i64 a] w (fun e w' => e = .returned (eno 1) ∧ Half W c q o v L L1 w') :=
  (cput_no w c id a hn).mono fun _ _ ⟨he, hw⟩ => ⟨he, hw ▸ h⟩
theorem p_put_yes (h : Half W c q o v L L1 w) {id a : Int} (hid : In64 id) (h1 : 0 ≤ id) (h2 : 0 ≤ a) (h4 : L1.length ≤ 4000) :
    Calls Tryd.prog 8 #[.pointer (some ⟨c, 0, none⟩), .int .i64 id, .int .i64 a] w (fun e w' => e = .returned .nilIface ∧ Half W c q o v L (putL id a L1) w') := by
  have h0 := h
  obtain ⟨⟨S, k1, k2, k3⟩, _, _, k4, k5, _⟩ := h
  exact (cput_yes k1 id a hid h1 h2 h4 k5.size).mono fun e w' ⟨he, ht⟩ => ⟨he, h0.turn k1 k2 k3 ht (putL_good k4)⟩
theorem p_drop (h : Half W c q o v L L1 w) {id : Int} (hid : In64 id) :
    Calls Tryd.prog 10 #[.pointer (some ⟨c, 0, none⟩), .int .i64 id] w (fun e w' => e = .returned (errV (remE id L1)) ∧ Half W c q o v L (remL id L1) w') := by
  have h0 := h
  obtain ⟨⟨S, k1, k2, k3⟩, _, _, k4, k5, _⟩ := h
  exact (cdrop_any k1 id hid).mono fun e w' ⟨he, ht⟩ => ⟨he, h0.turn k1 k2 k3 ht.turn (remL_good k4)⟩
theorem p_at (h : Half W c q o v L L1 w) {id : Int} (hid : In64 id) :
    Calls Tryd.prog 14 #[.pointer (some ⟨c, 0, none⟩), .int .i64 id] w (fun e w' => e = .returned (.tuple #[.int .i64 (atV id L1), .bool (atB id L1)]) ∧ Half W c q o v L L1 w') := by
  have h0 := h
  obtain ⟨⟨S, k1, _⟩, _⟩ := h0
  exact (cat_any k1 id hid).mono fun e w' ⟨he, hb⟩ => ⟨he, h.under hb⟩
theorem p_len (h : Half W c q o v L L1 w) :
    Calls Tryd.prog 16 #[.pointer (some ⟨c, 0, none⟩)] w (fun e w' => e = .returned (.int .i64 L1.length) ∧ w = w') := by
  obtain ⟨⟨S, k1, _⟩, _⟩ := h
  exact clen_any k1
theorem p_next (h : Half W c q o v L L1 w) :
    Calls Tryd.prog 17 #[.pointer (some ⟨c, 0, none⟩)] w (fun e w' => e = .returned (.tuple #[.int .i64 (nxV L1), .bool (nxB L1)]) ∧ Half W c q o v L L1 w') := by
  have h0 := h
  obtain ⟨⟨S, k1, _⟩, _⟩ := h0
  exact (cnext_any k1 h.good1).mono fun e w' ⟨he, hb⟩ => ⟨he, h.under hb⟩
theorem r_put_no (h : Half W c q o v L L1 w) {id a : Int} (hn : id < 0 ∨ a < 0) :
    Calls Tryd.prog 6 #[v, .int .i64 id, .int .i64 a] w (fun e w' => ∃ v', e = .returned (.tuple #[v', .int .i64 1]) ∧ Half W c q o v L L1 w' ∧ ∃ p cp, v' = .slice p L.length cp) :=
  (rput_no w v L h.its id a hn).mono fun e w' hr => by
    obtain ⟨v', he, _, h2⟩ := h.ref hr h.good
    obtain ⟨v2, he2, hi, _⟩ := hr
    obtain ⟨p, cp, hv, _⟩ := own_small hi
    rw [he] at he2
    cases he2
    exact ⟨v', he, h2, p, cp, hv⟩
theorem r_put_yes (h : Half W c q o v L L1 w) {id a : Int} (h1 : 0 ≤ id) (h2 : 0 ≤ a) (h4 : L.length ≤ 4000) :
    Calls Tryd.prog 6 #[v, .int .i64 id, .int .i64 a] w (fun e w' => ∃ v', e = .returned (.tuple #[v', .int .i64 0]) ∧ Half W c q o v' (putL id a L) L1 w') :=
  (rput_yes w v L h.its (by omega) id a h1 h2).mono fun e w' hr => by
    obtain ⟨v', he, hh, _⟩ := h.ref hr (putL_good h.good)
    exact ⟨v', he, hh⟩
theorem r_drop (h : Half W c q o v L L1 w) (id : Int) (h4 : L.length ≤ 4000) :
    Calls Tryd.prog 9 #[v, .int .i64 id] w (fun e w' => ∃ v', e = .returned (.tuple #[v', .int .i64 (remE id L)]) ∧ Half W c q o v' (remL id L) L1 w') :=
  (rdrop_any w v L h.its (by omega) id).mono fun e w' hr => by
    obtain ⟨v', he, hh, _⟩ := h.ref hr (remL_good h.good)
    exact ⟨v', he, hh⟩
theorem r_find (h : Half W c q o v L L1 w) (id : Int) (h4 : L.length ≤ 4000) :
    Calls Tryd.prog 15 #[v, .int .i64 id] w (fun e w' => e = .returned (.int .i64 (optP (findI id L))) ∧ w = w') := rfind_any w v L h.its (by omega) id
/-- The document's Due has been called, the program's not yet. -/
def HalfD (W : World) (c q : Nat) (o : Obj) (v u : Value) (L : List Pr) (K : Nat) (w : World) : Prop :=
  ∃ S, Its w v (L.drop K) ∧ Cal.Good L ∧ Below W.heap.size W w ∧ w.heap[q]? = some o ∧ NumR W.heap.size w u L K ∧ CalR W.heap.size S w L c ∧ (∀ g, v.ownBlock = some g → ¬ S g) ∧ (∀ g, u.ownBlock = some g → ¬ S g) ∧ ¬ S q
theorem HalfD.cell {x : Array Value} {t : TypeId} {u : Value} {K : Nat} (h : HalfD W c q (.cells x t (0, 0)) v u L K w) (j : Nat) : w.cell? ⟨q, j, none⟩ = x[j]? := by
  obtain ⟨S, _, _, _, hob, _⟩ := h
  exact cell_of_row _ _ _ _ _ _ hob
theorem r_due (h : Half W c q o v L L w) (till : Int) (h4 : L.length ≤ 4000) :
    Calls Tryd.prog 11 #[v, .int .i64 till] w (fun e w' => ∃ v1 v2, e = .returned (.tuple #[v1, v2]) ∧ HalfD W c q o v1 v2 L (dueN till L) w') :=
  (rdue_any w v L h.its (by omega) till).mono fun e w' ⟨v1, v2, he, hi, hn, hb⟩ => by
    have hq := h.qlt
    obtain ⟨⟨S, h1, h2, h6⟩, h3, h4, h4', h5, h7⟩ := h
    refine ⟨v1, v2, he, S, own_base2 hi (Nat.zero_le _), h4, bnext h5 hb, (hb.block q hq).trans h7, own_base2 hn h5.size, h1.below hb, fun g e hs => ?_, fun g e hs => ?_, h6⟩
    · have := h1.lt g hs
      have := (World.ownsRow.lt hi g e).1
      omega
    · have := h1.lt g hs
      have := (World.ownsRow.lt hn g e).1
      omega
theorem p_due {u : Value} {till : Int} (h : HalfD W c q o v u L (dueN till L) w) (h4 : L.length ≤ 4000) :
    Calls Tryd.prog 13 #[.pointer (some ⟨c, 0, none⟩), .int .i64 till] w (fun e w' => ∃ v3, e = .returned v3 ∧ NumR W.heap.size w' v3 L (dueN till L) ∧ NumR W.heap.size w' u L (dueN till L) ∧ Half W c q o v (L.drop (dueN till L)) (L.drop (dueN till L)) w') := by
  obtain ⟨S, hi, hg, hb, hq, hu, hc, hv1, hv2, hq2⟩ := h
  exact (cdue_any hc hg (by omega) till).mono fun e w' ⟨v3, he, hn, hgo⟩ =>
    ⟨v3, he, own_base2 hn hb.size, own_keep hu hgo.2 hv2, ⟨S, hgo.1, hv1, hq2⟩, own_keep hi hgo.2 hv1, drop_good hg _, drop_good hg _, hb.trans (hgo.2.below hb.size fun x hx => (hc.lt x hx).1), (hgo.2.block q (Array.getElem?_eq_some_iff.1 hq).1 hq2).trans hq⟩
theorem p_num (h : Half W c q o v L L1 w) (hL : LaidAt W) (n : Int) : Calls Tryd.prog 7 #[errV n] w (fun e w' => e = .returned (.int .i64 n) ∧ Half W c q o v L L1 w') := by
  by_cases hn : n = 0
  · subst hn
    exact (num_nil w).mono fun _ _ ⟨he, hb⟩ => ⟨he, h.under hb⟩
  · rw [errV_ne hn]
    exact (num_errno n w (hL.below h.below)).mono fun _ _ ⟨he, hb⟩ => ⟨he, h.under hb⟩
end
end Go.Proofs.YtknhjbfhkfngeaaDoor
