/- The document's own Drop of a queue of numbers, where there is such an element; no condition but those that the row names. -/
import Derived.Test.YtdpchojfgcjbeaaFRef
import Derived.Test.YtdpchojfgcjbeaaFRow
namespace Go.Proofs.Ytdpchojfgcjbeaa
open Go.RowKit

set_option maxHeartbeats 1000000 in
set_option maxRecDepth 100000 in
theorem rdrop_yes (w : World) (lim : Int) (v : Value) (l : List Int) (h : Nums w v l) (i : Nat) (hi : i < l.length) (h4 : l.length ≤ 4096) (x : Int) (hx : l[i] = x) :
    Calls Try.prog 43 #[.agg #[.int .i64 lim, v], .int .i64 i] w (RPost w lim (l.eraseIdx i) [.int .i64 x, .int .i64 0]) := by
  have hb0 : ∀ o o', Below w.heap.size w ((w.alloc o).alloc o') := fun o o' => ((Below.refl w.heap.size w).alloc (Nat.le_refl _) o).alloc (by simp) o'
  have HT := Lib.hid (fun o o' => rat_yes _ lim v l (own_below h (hb0 o o')) i hi x hx)
  obtain ⟨g0, cap, rfl, _, hg0⟩ := h.form (by omega)
  obtain ⟨cur, _, _, hlc, _⟩ := row_of_own h
  have hcl : ∀ w1, Below w.heap.size w w1 → ∀ j u, (ints l)[j]? = some u → w1.cell? ⟨g0, j, none⟩ = some u := fun w1 hb j u hu => by
    have hj : j < l.length := by rw [← ints_len l]; exact (List.getElem?_eq_some_iff.1 hu).1
    exact (hb.cell (p := ⟨g0, j, none⟩) hg0).trans ((h.cellAt j (by omega)).trans hu)
  have e1 : (ints (l.take i)).length = i := by rw [ints_len, List.length_take]; omega
  have e2 : (ints (l.drop (i + 1))).length = l.length - (i + 1) := by rw [ints_len, List.length_drop]
  have HE := Lib.hid e1
  have HE2 := Lib.hid e2
  have HL := Lib.hid (show ∀ w1, Below w.heap.size w w1 → Lst (fun _ => False) w1 (.slice (some ⟨g0, 0, none⟩) i cap) (ints (l.take i)) from fun w1 hb => by
    refine ⟨_, _, by rw [e1], by rw [e1]; omega, fun j u hu => ⟨g0, 0, rfl, fun k => k, ?_⟩⟩
    rw [Nat.zero_add]
    refine hcl w1 hb j u ?_
    have hj : j < i := by rw [← e1]; exact (List.getElem?_eq_some_iff.1 hu).1
    unfold ints at hu ⊢
    rw [List.getElem?_map, List.getElem?_take, if_pos hj] at hu
    rw [List.getElem?_map]; exact hu)
  have HL2 := Lib.hid (show ∀ w1, Below w.heap.size w w1 → Lst (fun _ => False) w1 (.slice (some ⟨g0, i + 1, none⟩) (l.length - (i + 1)) (cap - (i + 1))) (ints (l.drop (i + 1))) from fun w1 hb => by
    refine ⟨_, _, by rw [e2], by rw [e2]; omega, fun j u hu => ⟨g0, i + 1, rfl, fun k => k, ?_⟩⟩
    refine hcl w1 hb (i + 1 + j) u ?_
    unfold ints at hu ⊢
    rw [List.getElem?_map, List.getElem?_drop] at hu
    rw [List.getElem?_map]; exact hu)
  have z3 : (i : Int) ≤ (cap : Int) := by omega
  have z4 : (i : Int) + 1 ≤ (l.length : Int) := by omega
  have z5 : (l.length : Int) ≤ (cap : Int) := by omega
  clear hcl e1 e2
  have z0 : (0 : Int) ≤ (i : Int) := by omega
  have z1 : (i : Int) < (l.length : Int) := by omega
  have z2 : (i : Int) + 1 ≤ 4096 := by omega
  by_cases hcap : cap = i + 1
  · subst hcap
    have HL4 := Lib.hid (show ∀ w1, Lst (fun _ => False) w1 (.slice (some ⟨g0, 0, none⟩) 0 0) (ints (l.drop (i + 1))) from fun w1 => by
      rw [List.drop_eq_nil_of_le (by omega)]
      exact ⟨_, _, rfl, by simp [ints], fun j x h => by simp [ints] at h⟩)
    clear h hx
    go_enter Try.func43, Try.ntmps43
    go_wp2_with fail
    refine (HT.out _ _).mono ?_
    rintro e w1 ⟨rfl, hb1⟩
    have hbw : Below w.heap.size w w1 := (hb0 _ _).trans (hb1.mono (by simp; omega))
    have HBW := Lib.hid hbw
    have y1 : w.heap.size + 1 < w1.heap.size := by have := hb1.size; simp at this; omega
    have y0 : w.heap.size < w1.heap.size := by omega
    obtain ⟨hc1, hf1⟩ := bcell hb1
    have t0 : w1.cell? ⟨w.heap.size, 0, none⟩ = some (.int .i64 lim) := (hc1 _ _ (by simp; omega)).trans (by simp)
    have t1 : w1.cell? ⟨w.heap.size, 1, none⟩ = some (.slice (some ⟨g0, 0, none⟩) l.length (i + 1)) := (hc1 _ _ (by simp; omega)).trans (by simp)
    have t2 : w1.heap[w.heap.size + 1]? = some (.cells #[.int .i64 0, .slice none 0 0] 30 (0, 0)) := (hb1.block _ (by simp)).trans (by simpa using heap_alloc_new (w.alloc (.cells #[.int .i64 lim, .slice (some ⟨g0, 0, none⟩) l.length (i + 1)] 30)) (.cells #[.int .i64 0, .slice none 0 0] 30))
    have T2 := Lib.hid t2
    clear hb1 hbw hc1 hf1 t2
    go_wp2_with (at_builtin; refine wpList_append_nums rfl _ _ rfl w1.heap.size (.slice none 0 0) 0 [] rfl (World.ownsRow_nil _ _ _ _) (.slice (some ⟨g0, 0, none⟩) i (i + 1)) (ints (l.take i)) rfl (HL.out _ HBW.out) ints_one (by rw [HE.out]; omega) (Nat.le_refl _) ?_)
    rw [HE.out]
    intro p2 c2 w2 ho2 hg2 ha2
    have hb2 : Below w1.heap.size w1 w2 := (Below.refl _ _).grown hg2 (Nat.le_refl _) (fun k e => by simp [Value.ownBlock] at e)
    have hf2 : ∀ g, (Value.slice p2 i c2).ownBlock = some g → w1.heap.size ≤ g := fun g e => by rcases ha2 g e with h | h; simp [Value.ownBlock] at h; exact h
    have k0 : w2.cell? ⟨w.heap.size, 0, none⟩ = some (.int .i64 lim) := (hb2.cell (p := ⟨w.heap.size, 0, none⟩) y0).trans t0
    have k1 : w2.cell? ⟨w.heap.size, 1, none⟩ = some (.slice (some ⟨g0, 0, none⟩) l.length (i + 1)) := (hb2.cell (p := ⟨w.heap.size, 1, none⟩) y0).trans t1
    have z6 : w1.heap.size ≤ w2.heap.size := hb2.size
    have HO2 := Lib.hid ho2
    have HB2 := Lib.hid hb2
    have HF2 := Lib.hid hf2
    have HBW2 := Lib.hid (bnext HBW.out hb2)
    clear ho2 hg2 ha2 hb2 hf2
    go_wp2_with (at_builtin; refine wpList_append_nums rfl _ _ rfl w1.heap.size (.slice p2 i c2) i (ints (l.take i)) rfl HO2.out _ (ints (l.drop (i + 1))) rfl (HL4.out _) ints_one (by rw [HE2.out]; omega) z6 ?_)
    rw [HE2.out]
    intro p3 c3 w3 ho3 hg3 ha3
    have hb3 : Below w1.heap.size w1 w3 := HB2.out.grown hg3 z6 (fun k e => HF2.out k e)
    have hf3 : ∀ g, (Value.slice p3 (i + (l.length - (i + 1))) c3).ownBlock = some g → w1.heap.size ≤ g := fun g e => by rcases ha3 g e with h | h; exact HF2.out g h; omega
    have r0 : w3.cell? ⟨w.heap.size, 0, none⟩ = some (.int .i64 lim) := (hb3.cell (p := ⟨w.heap.size, 0, none⟩) y0).trans t0
    have r2 : w3.heap[w.heap.size + 1]? = some (.cells #[.int .i64 0, .slice none 0 0] 30 (0, 0)) := (hb3.block _ y1).trans T2.out
    have r3 : w3.cell? ⟨w.heap.size + 1, 0, none⟩ = some (.int .i64 0) := (cell_of_row _ _ _ _ _ _ r2).trans rfl
    have r4 : w3.cell? ⟨w.heap.size + 1, 1, none⟩ = some (.slice none 0 0) := (cell_of_row _ _ _ _ _ _ r2).trans rfl
    have r5 := frozen_of_row w3 _ 0 _ _ r2
    have r6 := frozen_of_row w3 _ 1 _ _ r2
    have y2 : w.heap.size + 1 < w3.heap.size := lt_of_block r2
    have hlen : (l.eraseIdx i).length = i + (l.length - (i + 1)) := by rw [List.length_eraseIdx, if_pos hi]; omega
    have hel : ints (l.take i) ++ ints (l.drop (i + 1)) = ints (l.eraseIdx i) := by rw [List.eraseIdx_eq_take_drop_succ]; simp [ints]
    rw [hel] at ho3
    obtain ⟨n3, hn3⟩ : ∃ n3, n3 = i + (l.length - (i + 1)) := ⟨_, rfl⟩
    rw [← hn3] at ho3 hlen hf3 ⊢
    have HO3 := Lib.hid ho3
    have HB3 := Lib.hid hb3
    have HF3 := Lib.hid hf3
    have HLEN := Lib.hid hlen
    clear ho3 hg3 ha3 hb3 hf3 r2 hlen hel hn3
    go_wp2_with fail
    refine bodyPost_ret (v := .tuple #[.agg #[.int .i64 lim, .slice p3 n3 c3], .int .i64 x, .int .i64 0]) ?r1 rfl ?_
    case r1 => simp [results, Try.results43, go_sem, r3, r4]
    have n1 : (Value.slice p3 n3 c3).ownBlock ≠ some (w.heap.size + 1) := fun e => by have := HF3.out _ e; omega
    have hbb := ((HBW.out.trans (HB3.out.mono (by omega))).setCell (p := ⟨w.heap.size + 1, 0, none⟩) (by simp) (.int .i64 lim)).setCell (p := ⟨w.heap.size + 1, 1, none⟩) (by simp) (.slice p3 n3 c3)
    refine ⟨_, rfl, ?_, hbb⟩
    have := ownsRow_setCell_other (ownsRow_setCell_other HO3.out (a := ⟨w.heap.size + 1, 0, none⟩) n1 (.int .i64 lim)) (a := ⟨w.heap.size + 1, 1, none⟩) n1 (.slice p3 n3 c3)
    simp only [Nums, HLEN.out]
    exact own_base this (Nat.zero_le _)
  · have hcap' : ¬ i + 1 = cap := fun e => hcap e.symm
    clear h hx
    go_enter Try.func43, Try.ntmps43
    go_wp2_with fail
    refine (HT.out _ _).mono ?_
    rintro e w1 ⟨rfl, hb1⟩
    have hbw : Below w.heap.size w w1 := (hb0 _ _).trans (hb1.mono (by simp; omega))
    have HBW := Lib.hid hbw
    have y1 : w.heap.size + 1 < w1.heap.size := by have := hb1.size; simp at this; omega
    have y0 : w.heap.size < w1.heap.size := by omega
    obtain ⟨hc1, hf1⟩ := bcell hb1
    have t0 : w1.cell? ⟨w.heap.size, 0, none⟩ = some (.int .i64 lim) := (hc1 _ _ (by simp; omega)).trans (by simp)
    have t1 : w1.cell? ⟨w.heap.size, 1, none⟩ = some (.slice (some ⟨g0, 0, none⟩) l.length cap) := (hc1 _ _ (by simp; omega)).trans (by simp)
    have t2 : w1.heap[w.heap.size + 1]? = some (.cells #[.int .i64 0, .slice none 0 0] 30 (0, 0)) := (hb1.block _ (by simp)).trans (by simpa using heap_alloc_new (w.alloc (.cells #[.int .i64 lim, .slice (some ⟨g0, 0, none⟩) l.length cap] 30)) (.cells #[.int .i64 0, .slice none 0 0] 30))
    have T2 := Lib.hid t2
    clear hb1 hbw hc1 hf1 t2
    go_wp2_with (at_builtin; refine wpList_append_nums rfl _ _ rfl w1.heap.size (.slice none 0 0) 0 [] rfl (World.ownsRow_nil _ _ _ _) (.slice (some ⟨g0, 0, none⟩) i cap) (ints (l.take i)) rfl (HL.out _ HBW.out) ints_one (by rw [HE.out]; omega) (Nat.le_refl _) ?_)
    rw [HE.out]
    intro p2 c2 w2 ho2 hg2 ha2
    have hb2 : Below w1.heap.size w1 w2 := (Below.refl _ _).grown hg2 (Nat.le_refl _) (fun k e => by simp [Value.ownBlock] at e)
    have hf2 : ∀ g, (Value.slice p2 i c2).ownBlock = some g → w1.heap.size ≤ g := fun g e => by rcases ha2 g e with h | h; simp [Value.ownBlock] at h; exact h
    have k0 : w2.cell? ⟨w.heap.size, 0, none⟩ = some (.int .i64 lim) := (hb2.cell (p := ⟨w.heap.size, 0, none⟩) y0).trans t0
    have k1 : w2.cell? ⟨w.heap.size, 1, none⟩ = some (.slice (some ⟨g0, 0, none⟩) l.length cap) := (hb2.cell (p := ⟨w.heap.size, 1, none⟩) y0).trans t1
    have z6 : w1.heap.size ≤ w2.heap.size := hb2.size
    have HO2 := Lib.hid ho2
    have HB2 := Lib.hid hb2
    have HF2 := Lib.hid hf2
    have HBW2 := Lib.hid (bnext HBW.out hb2)
    clear ho2 hg2 ha2 hb2 hf2
    go_wp2_with (at_builtin; refine wpList_append_nums rfl _ _ rfl w1.heap.size (.slice p2 i c2) i (ints (l.take i)) rfl HO2.out _ (ints (l.drop (i + 1))) rfl (HL2.out _ HBW2.out) ints_one (by rw [HE2.out]; omega) z6 ?_)
    rw [HE2.out]
    intro p3 c3 w3 ho3 hg3 ha3
    have hb3 : Below w1.heap.size w1 w3 := HB2.out.grown hg3 z6 (fun k e => HF2.out k e)
    have hf3 : ∀ g, (Value.slice p3 (i + (l.length - (i + 1))) c3).ownBlock = some g → w1.heap.size ≤ g := fun g e => by rcases ha3 g e with h | h; exact HF2.out g h; omega
    have r0 : w3.cell? ⟨w.heap.size, 0, none⟩ = some (.int .i64 lim) := (hb3.cell (p := ⟨w.heap.size, 0, none⟩) y0).trans t0
    have r2 : w3.heap[w.heap.size + 1]? = some (.cells #[.int .i64 0, .slice none 0 0] 30 (0, 0)) := (hb3.block _ y1).trans T2.out
    have r3 : w3.cell? ⟨w.heap.size + 1, 0, none⟩ = some (.int .i64 0) := (cell_of_row _ _ _ _ _ _ r2).trans rfl
    have r4 : w3.cell? ⟨w.heap.size + 1, 1, none⟩ = some (.slice none 0 0) := (cell_of_row _ _ _ _ _ _ r2).trans rfl
    have r5 := frozen_of_row w3 _ 0 _ _ r2
    have r6 := frozen_of_row w3 _ 1 _ _ r2
    have y2 : w.heap.size + 1 < w3.heap.size := lt_of_block r2
    have hlen : (l.eraseIdx i).length = i + (l.length - (i + 1)) := by rw [List.length_eraseIdx, if_pos hi]; omega
    have hel : ints (l.take i) ++ ints (l.drop (i + 1)) = ints (l.eraseIdx i) := by rw [List.eraseIdx_eq_take_drop_succ]; simp [ints]
    rw [hel] at ho3
    obtain ⟨n3, hn3⟩ : ∃ n3, n3 = i + (l.length - (i + 1)) := ⟨_, rfl⟩
    rw [← hn3] at ho3 hlen hf3 ⊢
    have HO3 := Lib.hid ho3
    have HB3 := Lib.hid hb3
    have HF3 := Lib.hid hf3
    have HLEN := Lib.hid hlen
    clear ho3 hg3 ha3 hb3 hf3 r2 hlen hel hn3
    go_wp2_with fail
    refine bodyPost_ret (v := .tuple #[.agg #[.int .i64 lim, .slice p3 n3 c3], .int .i64 x, .int .i64 0]) ?r1 rfl ?_
    case r1 => simp [results, Try.results43, go_sem, r3, r4]
    have n1 : (Value.slice p3 n3 c3).ownBlock ≠ some (w.heap.size + 1) := fun e => by have := HF3.out _ e; omega
    have hbb := ((HBW.out.trans (HB3.out.mono (by omega))).setCell (p := ⟨w.heap.size + 1, 0, none⟩) (by simp) (.int .i64 lim)).setCell (p := ⟨w.heap.size + 1, 1, none⟩) (by simp) (.slice p3 n3 c3)
    refine ⟨_, rfl, ?_, hbb⟩
    have := ownsRow_setCell_other (ownsRow_setCell_other HO3.out (a := ⟨w.heap.size + 1, 0, none⟩) n1 (.int .i64 lim)) (a := ⟨w.heap.size + 1, 1, none⟩) n1 (.slice p3 n3 c3)
    simp only [Nums, HLEN.out]
    exact own_base this (Nat.zero_le _)
end Go.Proofs.Ytdpchojfgcjbeaa
