/- The document's own Copy of a table: three rows of its own; no condition but those that each row names. -/
import Derived.Test.YtlcdbblbepndoaaDoorSRef
import Derived.Test.YtlcdbblbepndoaaDoorSKeep
import Derived.Deep.AppendLies
namespace Go.Proofs.YtlcdbblbepndoaaDoor
open Go.RowKit

/-- Three rows of the call's own, none the other. -/
structure Own3 (B : Nat) (w : World) (A : Tab) (g1 c1 g2 c2 g3 c3 : Nat) : Prop where
  g : w.ownsRow B 3 1 (.slice (some ⟨g1, 0, none⟩) A.gens.length c1) A.gens.length (ints A.gens)
  t : w.ownsRow B 4 1 (.slice (some ⟨g2, 0, none⟩) A.taken.length c2) A.taken.length (bools A.taken)
  l : w.ownsRow B 3 1 (.slice (some ⟨g3, 0, none⟩) A.list.length c3) A.list.length (ints A.list)
  n12 : g1 ≠ g2
  n13 : g1 ≠ g3
  n23 : g2 ≠ g3

/-- What Copy answers. -/
def CopyPost (w : World) (A : Tab) (e : Ending) (w' : World) : Prop :=
  ∃ g1 c1 g2 c2 g3 c3, e = .returned (rv A.kind (.slice (some ⟨g1, 0, none⟩) A.gens.length c1) (.slice (some ⟨g2, 0, none⟩) A.taken.length c2) (.slice (some ⟨g3, 0, none⟩) A.list.length c3)) ∧ Own3 w.heap.size w' A g1 c1 g2 c2 g3 c3 ∧ Below w.heap.size w w'

set_option maxHeartbeats 4000000 in
set_option maxRecDepth 100000 in
theorem rcopy_any (S : Nat → Prop) (A : Tab) (hA : A.Good) (gs ts ls : Value) (w : World) (h : RT S w A gs ts ls) :
    Calls Tryd.prog 45 #[rv A.kind gs ts ls] w (CopyPost w A) := by
  obtain ⟨i0, hi, hz0, hz1, hz2⟩ := info_parts Tryd.info3
  obtain ⟨j0, ji, jz0, jz1, jz2⟩ := info_parts Tryd.info4
  obtain ⟨⟨p, cp, rfl, _, hg⟩, ⟨q, cq, rfl, _, ht⟩, ⟨r, cr, rfl, _, hl⟩⟩ := h
  have e1 := ints_len A.gens
  have e2 := bools_len A.taken
  have e3 := ints_len A.list
  have n1 := hA.n1
  have n4 := hA.n4
  have hlt := hA.lt
  have hll := hA.ll
  obtain ⟨b1, o1, rfl, _, hd1⟩ := hg 0 _ (ints_at (by omega))
  obtain ⟨b2, o2, rfl, _, hd2⟩ := ht 0 _ (bools_at (by omega))
  obtain ⟨b3, o3, rfl, _, hd3⟩ := hl 0 _ (ints_at (by omega))
  have k1 := cell_lt hd1
  have k2 := cell_lt hd2
  have k3 := cell_lt hd3
  simp only at k1 k2 k3
  have HG := Lib.hid (show ∀ j u, (ints A.gens)[j]? = some u → w.cell? ⟨b1, o1 + j, none⟩ = some u from fun j u hu => by
    obtain ⟨b, off, e, _, hc⟩ := hg j u hu
    injection e with e
    injection e with e1 e2
    subst e1 e2; exact hc)
  have HT := Lib.hid (show ∀ j u, (bools A.taken)[j]? = some u → w.cell? ⟨b2, o2 + j, none⟩ = some u from fun j u hu => by
    obtain ⟨b, off, e, _, hc⟩ := ht j u hu
    injection e with e
    injection e with e1 e2
    subst e1 e2; exact hc)
  have HL := Lib.hid (show ∀ j u, (ints A.list)[j]? = some u → w.cell? ⟨b3, o3 + j, none⟩ = some u from fun j u hu => by
    obtain ⟨b, off, e, _, hc⟩ := hl j u hu
    injection e with e
    injection e with e1 e2
    subst e1 e2; exact hc)
  rw [e1, e2, e3]
  have m2 : A.taken.length ≤ 4096 := by omega
  have m3 : A.list.length ≤ 4096 := by omega
  have p2 : 0 < A.taken.length := by omega
  have p3 : 0 < A.list.length := by omega
  clear hg ht hl hd1 hd2 hd3 hlt hll
  have E1 := Lib.hid e1
  have E2 := Lib.hid e2
  have E3 := Lib.hid e3
  clear e1 e2 e3 hA
  go_enter Tryd.func45, Tryd.ntmps45
  have hb0 : ∀ o o' o'', Below w.heap.size w (((w.alloc o).alloc o').alloc o'') := fun o o' o'' => (((Below.refl w.heap.size w).alloc (Nat.le_refl _) o).alloc (by simp) o').alloc (by simp; omega) o''
  go_wp2_with (at_builtin; refine wpList_append_lies _ rfl _ _ 25 rfl w.heap.size 3 i0 (.int .i64 0) 1 8 Tryd.underlying25 hi hz0 hz1 hz2 rfl (by decide) (.slice none 0 0) 0 [] rfl (World.ownsRow_nil _ _ _ _) ⟨b1, o1, none⟩ A.gens.length cp (ints A.gens) rfl (by rw [E1.out, Nat.mul_one]) ?a1 ints_one n1 (by unfold maxLen; omega) (by omega) ?a2 (w.heap.size + 3) (by simp) ?_)
  case a1 =>
    intro j u hu
    rw [addr_plus]
    exact ((hb0 _ _ _).cell (p := ⟨b1, o1 + j, none⟩) k1).trans (HG.out j u hu)
  case a2 => simp; omega
  intro g1 c1 w1 hown1 hgrow1 hat1 hlt1
  have hB1 := below_of_grown hgrow1
  have hbw1 : Below w.heap.size w w1 := (hb0 _ _ _).trans (hB1.mono (by simp; omega))
  obtain ⟨hc1, hf1⟩ := bcell hB1
  have hz1' : w.heap.size + 3 ≤ w1.heap.size := by have := hB1.size; simp at this; omega
  have G1 : g1 = w.heap.size + 3 := by rcases hat1 with h | h; · cases h
                                       · exact h
  have hO1 := Lib.hid (show w1.ownsRow w.heap.size 3 1 (.slice (some ⟨g1, 0, none⟩) A.gens.length c1) A.gens.length (ints A.gens) from by simpa using hown1)
  subst G1
  clear hown1 hgrow1 hat1 hB1
  go_wp2_with (at_builtin; refine wpList_append_lies _ rfl _ _ 26 rfl w.heap.size 4 j0 (.bool false) 1 1 Tryd.underlying26 ji jz0 jz1 jz2 rfl (by decide) (.slice none 0 0) 0 [] rfl (World.ownsRow_nil _ _ _ _) ⟨b2, o2, none⟩ A.taken.length cq (bools A.taken) rfl (by rw [E2.out, Nat.mul_one]) ?b1 bools_one p2 (by unfold maxLen; omega) (by omega) ?b2 w1.heap.size (by simp) ?_)
  case b1 =>
    intro j u hu
    rw [addr_plus]
    exact ((hbw1.setCell (p := ⟨w.heap.size + 2, 1, none⟩) (by simp) _).cell (p := ⟨b2, o2 + j, none⟩) k2).trans (HT.out j u hu)
  case b2 => simp; omega
  intro g2 c2 w2 hown2 hgrow2 hat2 hlt2
  have hB2 := below_of_grown hgrow2
  have hbw1' := hbw1.setCell (p := ⟨w.heap.size + 2, 1, none⟩) (by simp) (.slice (some ⟨w.heap.size + 3, 0, none⟩) A.gens.length c1)
  have hbw2 : Below w.heap.size w w2 := by
    refine Below.trans (b := w1.setCell ⟨w.heap.size + 2, 1, none⟩ _) (hbw1.setCell (by simp) _) (hB2.mono (by simp; omega))
  obtain ⟨hc2, hf2⟩ := bcell hB2
  have hz2' : w1.heap.size < w2.heap.size := by
    have h1 := hlt2
    rcases hat2 with h | h
    · cases h
    · omega
  have G2 : g2 = w1.heap.size := by rcases hat2 with h | h; · cases h
                                    · exact h
  have hO1' := Lib.hid (show w2.ownsRow w.heap.size 3 1 (.slice (some ⟨w.heap.size + 3, 0, none⟩) A.gens.length c1) A.gens.length (ints A.gens) from own_below (own_other hO1.out ⟨w.heap.size + 2, 1, none⟩ _ (by simp [Value.ownBlock])) hB2)
  have hO2 := Lib.hid (show w2.ownsRow w.heap.size 4 1 (.slice (some ⟨g2, 0, none⟩) A.taken.length c2) A.taken.length (bools A.taken) from by simpa using hown2)
  subst G2
  clear hown2 hgrow2 hat2 hB2 hO1 hbw1'
  have y2 : w.heap.size + 3 < w2.heap.size := by omega
  have y6 : w.heap.size + 2 < w2.heap.size := by omega
  have y7 : w.heap.size + 1 < w2.heap.size := by omega
  have x7 : w.heap.size < w2.heap.size := by omega
  have y8 : w.heap.size + 2 < w1.heap.size := by omega
  have y9 : w.heap.size + 1 < w1.heap.size := by omega
  have x9 : w.heap.size < w1.heap.size := by omega
  go_wp2_with (at_builtin; refine wpList_append_lies _ rfl _ _ 25 rfl w.heap.size 3 i0 (.int .i64 0) 1 8 Tryd.underlying25 hi hz0 hz1 hz2 rfl (by decide) (.slice none 0 0) 0 [] rfl (World.ownsRow_nil _ _ _ _) ⟨b3, o3, none⟩ A.list.length cr (ints A.list) rfl (by rw [E3.out, Nat.mul_one]) ?d1 ints_one p3 (by unfold maxLen; omega) (by omega) ?d2 w2.heap.size (by simp) ?_)
  case d1 =>
    intro j u hu
    rw [addr_plus]
    exact ((hbw2.setCell (p := ⟨w.heap.size + 2, 2, none⟩) (by simp) _).cell (p := ⟨b3, o3 + j, none⟩) k3).trans (HL.out j u hu)
  case d2 => simp; omega
  intro g3 c3 w3 hown3 hgrow3 hat3 hlt3
  have hB3 := below_of_grown hgrow3
  have hbw3 : Below w.heap.size w w3 := Below.trans (b := w2.setCell ⟨w.heap.size + 2, 2, none⟩ _) (hbw2.setCell (by simp) _) (hB3.mono (by simp; omega))
  obtain ⟨hc3, hf3⟩ := bcell hB3
  have G3 : g3 = w2.heap.size := by rcases hat3 with h | h; · cases h
                                    · exact h
  have hO1'' := Lib.hid (show w3.ownsRow w.heap.size 3 1 (.slice (some ⟨w.heap.size + 3, 0, none⟩) A.gens.length c1) A.gens.length (ints A.gens) from own_below (own_other hO1'.out ⟨w.heap.size + 2, 2, none⟩ _ (by simp [Value.ownBlock])) hB3)
  have hO2' := Lib.hid (show w3.ownsRow w.heap.size 4 1 (.slice (some ⟨w1.heap.size, 0, none⟩) A.taken.length c2) A.taken.length (bools A.taken) from own_below (own_other hO2.out ⟨w.heap.size + 2, 2, none⟩ _ (by simp [Value.ownBlock]; omega)) hB3)
  have hO3 := Lib.hid (show w3.ownsRow w.heap.size 3 1 (.slice (some ⟨g3, 0, none⟩) A.list.length c3) A.list.length (ints A.list) from by simpa using hown3)
  subst G3
  clear hown3 hgrow3 hat3 hB3 hO1' hO2
  have y3 : w.heap.size + 3 < w3.heap.size := by omega
  have y4 : w.heap.size + 2 < w3.heap.size := by omega
  have y5 : w.heap.size + 1 < w3.heap.size := by omega
  have x5 : w.heap.size < w3.heap.size := by omega
  go_wp2_with fail
  have hown : ∀ {e n : Nat} {v : Value} {xs : List Value}, w3.ownsRow w.heap.size e 1 v n xs → v.ownBlock ≠ some (w.heap.size + 1) → v.ownBlock ≠ some (w.heap.size + 1 + 1) → ∀ u0 u1 u2 u3 u4,
      (((((w3.setCell ⟨w.heap.size + 1 + 1, 3, none⟩ u0).setCell ⟨w.heap.size + 1, 0, none⟩ u1).setCell ⟨w.heap.size + 1, 1, none⟩ u2).setCell ⟨w.heap.size + 1, 2, none⟩ u3).setCell ⟨w.heap.size + 1, 3, none⟩ u4).ownsRow w.heap.size e 1 v n xs :=
    fun h h1 h2 u0 u1 u2 u3 u4 => own_other (own_other (own_other (own_other (own_other h _ u0 h2) _ u1 h1) _ u2 h1) _ u3 h1) _ u4 h1
  refine bodyPost_ret (v := rv A.kind (.slice (some ⟨w.heap.size + 3, 0, none⟩) A.gens.length c1) (.slice (some ⟨w1.heap.size, 0, none⟩) A.taken.length c2) (.slice (some ⟨w2.heap.size, 0, none⟩) A.list.length c3)) ?r1 rfl ?_
  case r1 => simp [results, Tryd.results45, go_sem, hc3, hc2, hc1, y7, y9]
  refine ⟨_, _, _, _, _, _, rfl, ⟨hown hO1''.out (by simp [Value.ownBlock]) (by simp [Value.ownBlock]) _ _ _ _ _, hown hO2'.out (by simp [Value.ownBlock]; omega) (by simp [Value.ownBlock]; omega) _ _ _ _ _, hown hO3.out (by simp [Value.ownBlock]; omega) (by simp [Value.ownBlock]; omega) _ _ _ _ _, by omega, by omega, by omega⟩, ?_⟩
  exact ((((hbw3.setCell (by simp; omega) _).setCell (by simp) _).setCell (by simp) _).setCell (by simp) _).setCell (by simp) _
end Go.Proofs.YtlcdbblbepndoaaDoor
