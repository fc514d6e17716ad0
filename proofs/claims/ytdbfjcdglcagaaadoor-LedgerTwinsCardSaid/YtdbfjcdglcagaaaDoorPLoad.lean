/- The program's book: Load; no condition but those that each row names. -/
import Derived.Test.YtdbfjcdglcagaaaDoorPNote
namespace Go.Proofs.YtdbfjcdglcagaaaDoor
open Go.RowKit Go.Maps Bk

theorem has_setp {W : World} {g : Nat} {cs : Array Value} {T : TypeId} (h : Has W g (.cells cs T (0, 0))) (j : Nat) (u : Value) : Has (W.setCell ⟨g, j, none⟩ u) g (.cells (cs.setIfInBounds j u) T (0, 0)) := heap_setCell_same W g j cs T u h
/-- An account's block: what a walk asks of it. -/
theorem acc6 {W : World} {g : Nat} {T : TypeId} {a : Ac} (h : Has W g (.cells #[.int .i64 a.g, .int .i64 a.o, .int .i64 a.l, .int .i64 a.d, .int .i64 a.c, .int .i64 a.t] T)) :
    W.cell? ⟨g, 0, none⟩ = some (.int .i64 a.g) ∧ W.cell? ⟨g, 1, none⟩ = some (.int .i64 a.o) ∧ W.cell? ⟨g, 2, none⟩ = some (.int .i64 a.l) ∧ W.cell? ⟨g, 3, none⟩ = some (.int .i64 a.d) ∧ W.cell? ⟨g, 4, none⟩ = some (.int .i64 a.c) ∧ W.cell? ⟨g, 5, none⟩ = some (.int .i64 a.t) :=
  ⟨has_cell h 0, has_cell h 1, has_cell h 2, has_cell h 3, has_cell h 4, has_cell h 5⟩
set_option maxHeartbeats 2000000 in
set_option maxRecDepth 100000 in
theorem pload_ok (w : World) (b mb : Nat) (L : List Ln) (h : PBk w b mb L) (hl : L.length ≤ 100000) (k : Int) (hk : I64 k) (a c : Ac) (x : Ln) (hx : getB L k = some x) (hv : okA a ∧ okA c) :
    Calls Tryd.prog 27 #[.pointer (some ⟨b, 0, none⟩), .int .i64 k, aV a, aV c] w (PPost w b mb (updB L k (fun x => { x with a := a, c := c })) 0) := by
  have hlt := h.lt
  have HBK := Lib.hid h
  have HP := Lib.hid (fun W (hb : Below w.heap.size w W) => pfind_some W b mb L (h.below hb) k hk x hx)
  have HV := Lib.hid (fun W g T hA => (pvalid2 W a c g T hA))
  rw [decide_eq_true hv] at HV
  have HKK := Lib.hid hk
  have HX := Lib.hid hx
  have HW := Lib.hid (fun W (hb : Below w.heap.size w W) => has_cell (h.below hb).blk 0)
  simp only [List.getElem?_toArray, List.getElem?_cons_zero] at HW
  clear h hk hx hv
  go_enter Tryd.func27, Tryd.ntmps27
  go_wp2_with fail
  refine (HP.out _ (by repeat (first | exact Below.refl _ _ | (with_reducible assumption) | refine Below.drew ?_ | (refine Below.alloc ?_ (by first | exact Nat.le_refl _ | omega | (simp; done) | (simp; omega)) _) | (refine Below.setCell ?_ (by first | omega | (simp; done) | (simp; omega)) _)))).mono ?_
  rintro e w1 ⟨rfl, hb1⟩
  have HB1 := Lib.hid (bnext (show Below w.heap.size w _ from (by repeat (first | exact Below.refl _ _ | (with_reducible assumption) | refine Below.drew ?_ | (refine Below.alloc ?_ (by first | exact Nat.le_refl _ | omega | (simp; done) | (simp; omega)) _) | (refine Below.setCell ?_ (by first | omega | (simp; done) | (simp; omega)) _)))) hb1)
  have HA1 := Lib.hid (has_below (has_old (has_new _ (.cells #[.int .i64 a.g, .int .i64 a.o, .int .i64 a.l, .int .i64 a.d, .int .i64 a.c, .int .i64 a.t] 34) w.heap.size rfl) _) hb1)
  have HA2 := Lib.hid (has_below (has_new _ (.cells #[.int .i64 c.g, .int .i64 c.o, .int .i64 c.l, .int .i64 c.d, .int .i64 c.c, .int .i64 c.t] 34) (w.heap.size + 1) (by simp)) hb1)
  obtain ⟨a0, a1, a2, a3, a4, a5⟩ := acc6 (a := a) HA1.out
  obtain ⟨c0, c1, c2, c3, c4, c5⟩ := acc6 (a := c) HA2.out
  have hy1 : w.heap.size < w1.heap.size := by have := hb1.size; simp at this; omega
  have hz1 : w.heap.size + 1 < w1.heap.size := by have := hb1.size; simp at this; omega
  clear hb1
  go_wp2_with fail
  refine (HV.out _ _ _ (has_new _ _ _ (by first | rfl | simp))).mono ?_
  rintro e w2 ⟨rfl, hb2⟩
  have HPG := Lib.hid (has_below (has_old (has_new w1 (.cells #[.int .i64 x.p, .int .i64 x.a.g, .int .i64 x.a.o, .int .i64 x.a.l, .int .i64 x.a.d, .int .i64 x.a.c, .int .i64 x.a.t, .int .i64 x.c.g, .int .i64 x.c.o, .int .i64 x.c.l, .int .i64 x.c.d, .int .i64 x.c.c, .int .i64 x.c.t] 55) w1.heap.size rfl) _) hb2)
  have HA1' := Lib.hid (has_below (has_old (has_old HA1.out _) _) hb2)
  have HA2' := Lib.hid (has_below (has_old (has_old HA2.out _) _) hb2)
  have HB2 := Lib.hid (bnext (below_alloc (below_alloc HB1.out _) _) hb2)
  have hz2 : w1.heap.size < w2.heap.size := by have := hb2.size; simp at this; omega
  clear a0 a1 a2 a3 a4 a5 c0 c1 c2 c3 c4 c5 hb2
  obtain ⟨a0, a1, a2, a3, a4, a5⟩ := acc6 (a := a) HA1'.out
  obtain ⟨c0, c1, c2, c3, c4, c5⟩ := acc6 (a := c) HA2'.out
  obtain ⟨g0, g1, g2, g3, g4, g5, g6, g7, g8, g9, g10, g11, g12⟩ := page13 HPG.out
  have fr := fun j => has_free HPG.out j
  have hw2 := HW.out _ HB2.out
  have hne : w1.heap.size ≠ b := by omega
  obtain ⟨W3, hW3⟩ : ∃ W3, W3 = ((((((((((((w2.setCell ⟨w1.heap.size, 1, none⟩ (.int .i64 a.g)).setCell ⟨w1.heap.size, 2, none⟩ (.int .i64 a.o)).setCell ⟨w1.heap.size, 3, none⟩ (.int .i64 a.l)).setCell ⟨w1.heap.size, 4, none⟩ (.int .i64 a.d)).setCell ⟨w1.heap.size, 5, none⟩ (.int .i64 a.c)).setCell ⟨w1.heap.size, 6, none⟩ (.int .i64 a.t)).setCell ⟨w1.heap.size, 7, none⟩ (.int .i64 c.g)).setCell ⟨w1.heap.size, 8, none⟩ (.int .i64 c.o)).setCell ⟨w1.heap.size, 9, none⟩ (.int .i64 c.l)).setCell ⟨w1.heap.size, 10, none⟩ (.int .i64 c.d)).setCell ⟨w1.heap.size, 11, none⟩ (.int .i64 c.c)).setCell ⟨w1.heap.size, 12, none⟩ (.int .i64 c.t)).drew := ⟨_, rfl⟩
  have hH3 : Has W3 w1.heap.size (.cells #[.int .i64 x.p, .int .i64 a.g, .int .i64 a.o, .int .i64 a.l, .int .i64 a.d, .int .i64 a.c, .int .i64 a.t, .int .i64 c.g, .int .i64 c.o, .int .i64 c.l, .int .i64 c.d, .int .i64 c.c, .int .i64 c.t] 55) := by
    rw [hW3]
    have hh := (has_setp (has_setp (has_setp (has_setp (has_setp (has_setp (has_setp (has_setp (has_setp (has_setp (has_setp (has_setp HPG.out 1 (.int .i64 a.g)) 2 (.int .i64 a.o)) 3 (.int .i64 a.l)) 4 (.int .i64 a.d)) 5 (.int .i64 a.c)) 6 (.int .i64 a.t)) 7 (.int .i64 c.g)) 8 (.int .i64 c.o)) 9 (.int .i64 c.l)) 10 (.int .i64 c.d)) 11 (.int .i64 c.c)) 12 (.int .i64 c.t))
    simp only [List.setIfInBounds_toArray, List.set_cons_succ, List.set_cons_zero] at hh
    with_reducible exact has_drew hh
  have HB3 := Lib.hid (show Below w.heap.size w W3 from by
    rw [hW3]
    refine Below.drew ?_
    iterate 12 (refine Below.setCell ?_ (by simp only []; omega) _)
    exact HB2.out)
  obtain ⟨w4, hrun, hm4, hg4⟩ := put_drew (HBK.out.below HB3.out).map (by unfold maxLen; omega) HKK.out (.agg #[.int .i64 x.p, .int .i64 a.g, .int .i64 a.o, .int .i64 a.l, .int .i64 a.d, .int .i64 a.c, .int .i64 a.t, .int .i64 c.g, .int .i64 c.o, .int .i64 c.l, .int .i64 c.d, .int .i64 c.c, .int .i64 c.t])
  have HF := Lib.hid (turn_upd HBK.out HB3.out.drew hg4 HX.out (f := fun x => { x with a := a, c := c }) (fun _ => rfl) rfl hm4)
  have HK3 := Lib.hid (keeps_turn HB3.out.drew hg4)
  have HH3 := Lib.hid hH3
  have HW3 := Lib.hid hW3
  clear hm4 hg4 hW3 hH3
  go_wp2_with fail
  go_region
  go_wp2_with fail
  rw [← HW3.out]
  clear a0 a1 a2 a3 a4 a5 c0 c1 c2 c3 c4 c5 g0 g1 g2 g3 g4 g5 g6 g7 g8 g9 g10 g11 g12 fr
  obtain ⟨g0, g1, g2, g3, g4, g5, g6, g7, g8, g9, g10, g11, g12⟩ := page13 HH3.out
  have hw3 := HW.out _ HB3.out
  go_region
  go_wp2_with fail
  go_ret
  exact ⟨rfl, HF.out, HK3.out⟩
set_option maxHeartbeats 2000000 in
set_option maxRecDepth 100000 in
theorem pload_arg (w : World) (b mb : Nat) (L : List Ln) (h : PBk w b mb L) (k : Int) (hk : I64 k) (a c : Ac) (x : Ln) (hx : getB L k = some x) (hv : ¬ (okA a ∧ okA c)) :
    Calls Tryd.prog 27 #[.pointer (some ⟨b, 0, none⟩), .int .i64 k, aV a, aV c] w (PPost w b mb L 1) := by
  have hlt := h.lt
  have HBK := Lib.hid h
  have HP := Lib.hid (fun W (hb : Below w.heap.size w W) => pfind_some W b mb L (h.below hb) k hk x hx)
  have HV := Lib.hid (fun W g T hA => (pvalid2 W a c g T hA))
  rw [decide_eq_false hv] at HV
  clear h hk hx hv
  go_enter Tryd.func27, Tryd.ntmps27
  go_wp2_with fail
  refine (HP.out _ (by repeat (first | exact Below.refl _ _ | (with_reducible assumption) | refine Below.drew ?_ | (refine Below.alloc ?_ (by first | exact Nat.le_refl _ | omega | (simp; done) | (simp; omega)) _) | (refine Below.setCell ?_ (by first | omega | (simp; done) | (simp; omega)) _)))).mono ?_
  rintro e w1 ⟨rfl, hb1⟩
  have HB1 := Lib.hid (bnext (show Below w.heap.size w _ from (by repeat (first | exact Below.refl _ _ | (with_reducible assumption) | refine Below.drew ?_ | (refine Below.alloc ?_ (by first | exact Nat.le_refl _ | omega | (simp; done) | (simp; omega)) _) | (refine Below.setCell ?_ (by first | omega | (simp; done) | (simp; omega)) _)))) hb1)
  have HA1 := Lib.hid (has_below (has_old (has_new _ (.cells #[.int .i64 a.g, .int .i64 a.o, .int .i64 a.l, .int .i64 a.d, .int .i64 a.c, .int .i64 a.t] 34) w.heap.size rfl) _) hb1)
  have HA2 := Lib.hid (has_below (has_new _ (.cells #[.int .i64 c.g, .int .i64 c.o, .int .i64 c.l, .int .i64 c.d, .int .i64 c.c, .int .i64 c.t] 34) (w.heap.size + 1) (by simp)) hb1)
  obtain ⟨a0, a1, a2, a3, a4, a5⟩ := acc6 (a := a) HA1.out
  obtain ⟨c0, c1, c2, c3, c4, c5⟩ := acc6 (a := c) HA2.out
  have hy1 : w.heap.size < w1.heap.size := by have := hb1.size; simp at this; omega
  have hz1 : w.heap.size + 1 < w1.heap.size := by have := hb1.size; simp at this; omega
  clear hb1
  go_wp2_with fail
  refine (HV.out _ _ _ (has_new _ _ _ (by first | rfl | simp))).mono ?_
  rintro e w2 ⟨rfl, hb2⟩
  have HB2 := Lib.hid (bnext (below_alloc (below_alloc HB1.out _) _) hb2)
  clear a0 a1 a2 a3 a4 a5 c0 c1 c2 c3 c4 c5 hb2
  go_wp2_with fail
  go_ret
  exact ⟨by first | rfl | exact (congrArg Ending.returned (errV_ne (by decide)).symm), HBK.out.below HB2.out, Keeps.of_below HB2.out⟩
set_option maxHeartbeats 2000000 in
set_option maxRecDepth 100000 in
theorem pload_none (w : World) (b mb : Nat) (L : List Ln) (h : PBk w b mb L) (k : Int) (hk : I64 k) (a c : Ac) (hx : getB L k = none) :
    Calls Tryd.prog 27 #[.pointer (some ⟨b, 0, none⟩), .int .i64 k, aV a, aV c] w (PPost w b mb L 20) := by
  have hlt := h.lt
  have HBK := Lib.hid h
  have HP := Lib.hid (fun W (hb : Below w.heap.size w W) => pfind_none W b mb L (h.below hb) k hk hx)
  clear h hk hx
  go_enter Tryd.func27, Tryd.ntmps27
  go_wp2_with fail
  refine (HP.out _ (by repeat (first | exact Below.refl _ _ | (with_reducible assumption) | refine Below.drew ?_ | (refine Below.alloc ?_ (by first | exact Nat.le_refl _ | omega | (simp; done) | (simp; omega)) _) | (refine Below.setCell ?_ (by first | omega | (simp; done) | (simp; omega)) _)))).mono ?_
  rintro e w1 ⟨rfl, hb1⟩
  have HB1 := Lib.hid (bnext (show Below w.heap.size w _ from (by repeat (first | exact Below.refl _ _ | (with_reducible assumption) | refine Below.drew ?_ | (refine Below.alloc ?_ (by first | exact Nat.le_refl _ | omega | (simp; done) | (simp; omega)) _) | (refine Below.setCell ?_ (by first | omega | (simp; done) | (simp; omega)) _)))) hb1)
  clear hb1
  rw [errV_ne (by decide)]
  go_wp2_with fail
  go_ret
  exact ⟨by first | rfl | exact (congrArg Ending.returned (errV_ne (by decide)).symm), HBK.out.below (below_alloc HB1.out _), Keeps.of_below (below_alloc HB1.out _)⟩
theorem pload (w : World) (b mb : Nat) (L : List Ln) (h : PBk w b mb L) (hl : L.length ≤ 100000) (k : Int) (hk : I64 k) (a c : Ac) :
    Calls Tryd.prog 27 #[.pointer (some ⟨b, 0, none⟩), .int .i64 k, aV a, aV c] w (PPost w b mb (loadB L k a c) (loadE L k a c)) := by
  unfold loadB
  cases hx : getB L k with
  | none =>
    have hE : loadE L k a c = 20 := if_pos hx
    rw [hE, if_neg (by decide)]
    exact pload_none w b mb L h k hk a c hx
  | some x =>
    have hn : ¬ getB L k = none := by rw [hx]; simp
    by_cases hv : okA a ∧ okA c
    · have hE : loadE L k a c = 0 := by unfold loadE; rw [if_neg hn, if_neg (fun hh => hh hv)]
      rw [hE, if_pos rfl]
      exact pload_ok w b mb L h hl k hk a c x hx hv
    · have hE : loadE L k a c = 1 := by unfold loadE; rw [if_neg hn, if_pos hv]
      rw [hE, if_neg (by decide)]
      exact pload_arg w b mb L h k hk a c x hx hv
end Go.Proofs.YtdbfjcdglcagaaaDoor
