/- The program's book: Close; no condition but those that each row names. -/
import Derived.Test.YtdbfjcdglcagaaaPAbove
namespace Go.Proofs.Ytdbfjcdglcagaaa
open Go.RowKit Go.Maps Bk

theorem has_otherp {W : World} {g : Nat} {o : Obj} (h : Has W g o) (p : Addr) (u : Value) (hp : p.block ≠ g) : Has (W.setCell p u) g o := (Below.heap_setCell W p u g (fun e => hp e.symm)).trans h
theorem wrap_swap (a b c : Int) : wrap64 (a + wrap64 (b + c)) = wrap64 (wrap64 (a + b) + c) := by unfold wrap64; omega
theorem turn_del {w w2 : World} {b mb : Nat} {L : List Ln} (h : PBk w b mb L) (hg : w.grownBy w2 (some mb)) (hn : Nd L) {k : Int} (hx : ∃ x, getB L k = some x)
    (hm : VMap Try.prog HT w2 mb (fun y => if y = k then none else FL L y) (if (FL L k).isSome then L.length - 1 else L.length)) : PBk w2 b mb (delB L k) := by
  obtain ⟨x, hx⟩ := hx
  refine h.turn hg ?_
  rw [show (FL L k).isSome = true from by unfold FL; rw [hx]; rfl] at hm
  rw [del_len hn hx]
  exact hm.congr fun y _ => (FL_del L k y).symm
theorem get_upd_some {L : List Ln} {k p : Int} {x z : Ln} (hx : getB L k = some x) : ∃ u, getB (updB L p (closeUp z)) k = some u := by
  rw [get_upd (f := closeUp z) (fun _ => rfl)]
  by_cases e : k = p
  · rw [if_pos e, ← e, hx]; exact ⟨_, rfl⟩
  · rw [if_neg e]; exact ⟨_, hx⟩
set_option maxHeartbeats 4000000 in
set_option maxRecDepth 100000 in
theorem pclose_ok (w : World) (b mb : Nat) (L : List Ln) (h : PBk w b mb L) (hl : L.length ≤ 100000) (hn : Nd L) (hwf : ∀ x ∈ L, I64 x.h ∧ I64 x.p) (k : Int) (hk : I64 k) (x y : Ln) (hx : getB L k = some x) (hp : x.p ≠ 0) (hbl : belowB L k = false) (hy : getB L x.p = some y) :
    Calls Try.prog 8 #[.pointer (some ⟨b, 0, none⟩), .int .i64 k] w (PPost w b mb (delB (updB L x.p (closeUp x)) k) 0) := by
  have hlt := h.lt
  have hp64 := (hwf x (get_some hx).2).2
  have HBK := Lib.hid h
  have HP := Lib.hid (fun W (hb : Below w.heap.size w W) => pfind_some W b mb L (h.below hb) k hk x hx)
  have HA := Lib.hid (fun W (hb : Below w.heap.size w W) => pabove W b mb L (h.below hb) hn (fun x hx => (hwf x hx).1) k)
  rw [hbl] at HA
  have HL := Lib.hid (fun W (hb : Below w.heap.size w W) => ((h.below hb).look_some hp64 hy).2)
  have HKK := Lib.hid hk
  have HP64 := Lib.hid hp64
  have HX := Lib.hid hx
  have HY := Lib.hid hy
  have HN := Lib.hid hn
  have HW := Lib.hid (fun W (hb : Below w.heap.size w W) => has_cell (h.below hb).blk 0)
  simp only [List.getElem?_toArray, List.getElem?_cons_zero] at HW
  have z0 : (x.p == 0) = false := by simpa using hp
  clear h hk hx hy hn hwf hp hp64 hbl
  go_enter Try.func8, Try.ntmps8
  go_wp2_with fail
  refine (HP.out _ (by repeat (first | exact Below.refl _ _ | (with_reducible assumption) | refine Below.drew ?_ | (refine Below.alloc ?_ (by first | exact Nat.le_refl _ | omega | (simp; done) | (simp; omega)) _) | (refine Below.setCell ?_ (by first | omega | (simp; done) | (simp; omega)) _)))).mono ?_
  rintro e w1 ⟨rfl, hb1⟩
  have HB1 := Lib.hid (bnext (show Below w.heap.size w _ from (by repeat (first | exact Below.refl _ _ | (with_reducible assumption) | refine Below.drew ?_ | (refine Below.alloc ?_ (by first | exact Nat.le_refl _ | omega | (simp; done) | (simp; omega)) _) | (refine Below.setCell ?_ (by first | omega | (simp; done) | (simp; omega)) _)))) hb1)
  clear hb1
  go_wp2_with fail
  refine (HA.out _ (below_alloc HB1.out _)).mono ?_
  rintro e w2 ⟨rfl, hb2⟩
  have HX2 := Lib.hid (has_below (has_new w1 (.cells #[.int .i64 x.p, .int .i64 x.a.g, .int .i64 x.a.o, .int .i64 x.a.l, .int .i64 x.a.d, .int .i64 x.a.c, .int .i64 x.a.t, .int .i64 x.c.g, .int .i64 x.c.o, .int .i64 x.c.l, .int .i64 x.c.d, .int .i64 x.c.c, .int .i64 x.c.t] 43) w1.heap.size rfl) hb2)
  have HB2 := Lib.hid (bnext (below_alloc HB1.out _) hb2)
  have hz2 : w1.heap.size < w2.heap.size := by have := hb2.size; simp at this; omega
  obtain ⟨g0, g1, g2, g3, g4, g5, g6, g7, g8, g9, g10, g11, g12⟩ := page13 HX2.out
  clear hb2
  go_wp2_with fail
  refine (psum w2 x.a x.c).mono ?_
  rintro e w3 ⟨rfl, hb3⟩
  have HX3 := Lib.hid (has_below HX2.out hb3)
  have HB3 := Lib.hid (bnext HB2.out hb3)
  have hz3 : w1.heap.size < w3.heap.size := by have := hb3.size; omega
  clear g0 g1 g2 g3 g4 g5 g6 g7 g8 g9 g10 g11 g12 hb3
  obtain ⟨g0, g1, g2, g3, g4, g5, g6, g7, g8, g9, g10, g11, g12⟩ := page13 HX3.out
  have hw3 := HW.out _ HB3.out
  obtain ⟨W4, hW4⟩ : ∃ W4, W4 = w3.alloc (.cells #[.int .i64 x.a.g, .int .i64 (sumA x.a x.c).o, .int .i64 (sumA x.a x.c).l, .int .i64 (sumA x.a x.c).d, .int .i64 (sumA x.a x.c).c, .int .i64 (sumA x.a x.c).t] 29) := ⟨_, rfl⟩
  have HB4 := Lib.hid (show Below w.heap.size w W4 from by rw [hW4]; exact below_alloc HB3.out _)
  have HX4 := Lib.hid (show Has W4 w1.heap.size _ from by rw [hW4]; exact has_old HX3.out _)
  have HG4 := Lib.hid (show Has W4 w3.heap.size (.cells #[.int .i64 x.a.g, .int .i64 (sumA x.a x.c).o, .int .i64 (sumA x.a x.c).l, .int .i64 (sumA x.a x.c).d, .int .i64 (sumA x.a x.c).c, .int .i64 (sumA x.a x.c).t] 29) from by rw [hW4]; exact has_new _ _ _ rfl)
  have hz4 : w3.heap.size < W4.heap.size := by rw [hW4]; simp
  have HW4 := Lib.hid hW4
  have hrun := HL.out W4.drew HB4.out.drew
  have hrun2 := HL.out (W4.alloc (.cells #[.int .i64 0, .int .i64 0, .int .i64 0, .int .i64 0, .int .i64 0, .int .i64 0, .int .i64 0, .int .i64 0, .int .i64 0, .int .i64 0, .int .i64 0, .int .i64 0, .int .i64 0] 43)).drew (below_alloc HB4.out _).drew
  have hz1 : w1.heap.size < W4.heap.size := has_lt HX4.out
  have hbz : b < W4.heap.size := Nat.lt_of_lt_of_le hlt.1 HB4.out.size
  clear hW4
  go_wp2_with fail
  rw [← HW4.out]
  clear g0 g1 g2 g3 g4 g5 g6 g7 g8 g9 g10 g11 g12
  obtain ⟨g0, g1, g2, g3, g4, g5, g6, g7, g8, g9, g10, g11, g12⟩ := page13 HX4.out
  have hw4 := HW.out _ HB4.out
  go_region
  all_goals
    obtain ⟨W5, hW5⟩ : ∃ W5, W5 = (W4.alloc (.cells #[.int .i64 y.p, .int .i64 y.a.g, .int .i64 y.a.o, .int .i64 y.a.l, .int .i64 y.a.d, .int .i64 y.a.c, .int .i64 y.a.t, .int .i64 y.c.g, .int .i64 y.c.o, .int .i64 y.c.l, .int .i64 y.c.d, .int .i64 y.c.c, .int .i64 y.c.t] 43)).drew := ⟨_, rfl⟩
    have HB5 := Lib.hid (show Below w.heap.size w W5 from by rw [hW5]; exact (below_alloc HB4.out _).drew)
    have HX5 := Lib.hid (show Has W5 w1.heap.size _ from by rw [hW5]; exact has_drew (has_old HX4.out _))
    have HG5 := Lib.hid (show Has W5 w3.heap.size _ from by rw [hW5]; exact has_drew (has_old HG4.out _))
    have HY5 := Lib.hid (show Has W5 W4.heap.size (.cells #[.int .i64 y.p, .int .i64 y.a.g, .int .i64 y.a.o, .int .i64 y.a.l, .int .i64 y.a.d, .int .i64 y.a.c, .int .i64 y.a.t, .int .i64 y.c.g, .int .i64 y.c.o, .int .i64 y.c.l, .int .i64 y.c.d, .int .i64 y.c.c, .int .i64 y.c.t] 43) from by rw [hW5]; exact has_drew (has_new _ _ _ rfl))
    have hz5 : W4.heap.size < W5.heap.size := has_lt HY5.out
    rw [← hW5]
    have HB4' := Lib.hid HB4.out.size
    clear hW5 hrun hrun2 hw4 g0 g1 g2 g3 g4 g5 g6 g7 g8 g9 g10 g11 g12
    obtain ⟨g0, g1, g2, g3, g4, g5, g6, g7, g8, g9, g10, g11, g12⟩ := page13 HY5.out
    obtain ⟨a0, a1, a2, a3, a4, a5⟩ := acc6 (a := ⟨x.a.g, (sumA x.a x.c).o, (sumA x.a x.c).l, (sumA x.a x.c).d, (sumA x.a x.c).c, (sumA x.a x.c).t⟩) HG5.out
    go_wp2_with fail
    refine (psum W5 y.c ⟨x.a.g, (sumA x.a x.c).o, (sumA x.a x.c).l, (sumA x.a x.c).d, (sumA x.a x.c).c, (sumA x.a x.c).t⟩).mono ?_
    rintro e w6 ⟨rfl, hb6⟩
    have HX6 := Lib.hid (has_below HX5.out hb6)
    have HY6 := Lib.hid (has_below HY5.out hb6)
    have HB6 := Lib.hid (bnext HB5.out hb6)
    clear hb6 g0 g1 g2 g3 g4 g5 g6 g7 g8 g9 g10 g11 g12 a0 a1 a2 a3 a4 a5
    obtain ⟨W7, hW7⟩ : ∃ W7, W7 = ((((((w6.setCell ⟨W4.heap.size, 7, none⟩ (.int .i64 (sumA y.c ⟨x.a.g, (sumA x.a x.c).o, (sumA x.a x.c).l, (sumA x.a x.c).d, (sumA x.a x.c).c, (sumA x.a x.c).t⟩).g)).setCell ⟨W4.heap.size, 8, none⟩ (.int .i64 (sumA y.c ⟨x.a.g, (sumA x.a x.c).o, (sumA x.a x.c).l, (sumA x.a x.c).d, (sumA x.a x.c).c, (sumA x.a x.c).t⟩).o)).setCell ⟨W4.heap.size, 9, none⟩ (.int .i64 (sumA y.c ⟨x.a.g, (sumA x.a x.c).o, (sumA x.a x.c).l, (sumA x.a x.c).d, (sumA x.a x.c).c, (sumA x.a x.c).t⟩).l)).setCell ⟨W4.heap.size, 10, none⟩ (.int .i64 (sumA y.c ⟨x.a.g, (sumA x.a x.c).o, (sumA x.a x.c).l, (sumA x.a x.c).d, (sumA x.a x.c).c, (sumA x.a x.c).t⟩).d)).setCell ⟨W4.heap.size, 11, none⟩ (.int .i64 (sumA y.c ⟨x.a.g, (sumA x.a x.c).o, (sumA x.a x.c).l, (sumA x.a x.c).d, (sumA x.a x.c).c, (sumA x.a x.c).t⟩).c)).setCell ⟨W4.heap.size, 12, none⟩ (.int .i64 (sumA y.c ⟨x.a.g, (sumA x.a x.c).o, (sumA x.a x.c).l, (sumA x.a x.c).d, (sumA x.a x.c).c, (sumA x.a x.c).t⟩).t)) := ⟨_, rfl⟩
    have HY7 := Lib.hid (show Has W7 W4.heap.size (.cells #[.int .i64 y.p, .int .i64 y.a.g, .int .i64 y.a.o, .int .i64 y.a.l, .int .i64 y.a.d, .int .i64 y.a.c, .int .i64 y.a.t, .int .i64 (sumA y.c ⟨x.a.g, (sumA x.a x.c).o, (sumA x.a x.c).l, (sumA x.a x.c).d, (sumA x.a x.c).c, (sumA x.a x.c).t⟩).g, .int .i64 (sumA y.c ⟨x.a.g, (sumA x.a x.c).o, (sumA x.a x.c).l, (sumA x.a x.c).d, (sumA x.a x.c).c, (sumA x.a x.c).t⟩).o, .int .i64 (sumA y.c ⟨x.a.g, (sumA x.a x.c).o, (sumA x.a x.c).l, (sumA x.a x.c).d, (sumA x.a x.c).c, (sumA x.a x.c).t⟩).l, .int .i64 (sumA y.c ⟨x.a.g, (sumA x.a x.c).o, (sumA x.a x.c).l, (sumA x.a x.c).d, (sumA x.a x.c).c, (sumA x.a x.c).t⟩).d, .int .i64 (sumA y.c ⟨x.a.g, (sumA x.a x.c).o, (sumA x.a x.c).l, (sumA x.a x.c).d, (sumA x.a x.c).c, (sumA x.a x.c).t⟩).c, .int .i64 (sumA y.c ⟨x.a.g, (sumA x.a x.c).o, (sumA x.a x.c).l, (sumA x.a x.c).d, (sumA x.a x.c).c, (sumA x.a x.c).t⟩).t] 43) from by
      rw [hW7]
      have hh := (has_setp (has_setp (has_setp (has_setp (has_setp (has_setp HY6.out 7 (.int .i64 (sumA y.c ⟨x.a.g, (sumA x.a x.c).o, (sumA x.a x.c).l, (sumA x.a x.c).d, (sumA x.a x.c).c, (sumA x.a x.c).t⟩).g)) 8 (.int .i64 (sumA y.c ⟨x.a.g, (sumA x.a x.c).o, (sumA x.a x.c).l, (sumA x.a x.c).d, (sumA x.a x.c).c, (sumA x.a x.c).t⟩).o)) 9 (.int .i64 (sumA y.c ⟨x.a.g, (sumA x.a x.c).o, (sumA x.a x.c).l, (sumA x.a x.c).d, (sumA x.a x.c).c, (sumA x.a x.c).t⟩).l)) 10 (.int .i64 (sumA y.c ⟨x.a.g, (sumA x.a x.c).o, (sumA x.a x.c).l, (sumA x.a x.c).d, (sumA x.a x.c).c, (sumA x.a x.c).t⟩).d)) 11 (.int .i64 (sumA y.c ⟨x.a.g, (sumA x.a x.c).o, (sumA x.a x.c).l, (sumA x.a x.c).d, (sumA x.a x.c).c, (sumA x.a x.c).t⟩).c)) 12 (.int .i64 (sumA y.c ⟨x.a.g, (sumA x.a x.c).o, (sumA x.a x.c).l, (sumA x.a x.c).d, (sumA x.a x.c).c, (sumA x.a x.c).t⟩).t))
      simp only [List.setIfInBounds_toArray, List.set_cons_succ, List.set_cons_zero] at hh
      with_reducible exact hh)
    have HX7 := Lib.hid (show Has W7 w1.heap.size (.cells #[.int .i64 x.p, .int .i64 x.a.g, .int .i64 x.a.o, .int .i64 x.a.l, .int .i64 x.a.d, .int .i64 x.a.c, .int .i64 x.a.t, .int .i64 x.c.g, .int .i64 x.c.o, .int .i64 x.c.l, .int .i64 x.c.d, .int .i64 x.c.c, .int .i64 x.c.t] 43) from by
      rw [hW7]
      iterate 6 (refine has_otherp ?_ _ _ (by simp only []; omega))
      exact HX6.out)
    have HB7 := Lib.hid (show Below w.heap.size w W7 from by
      rw [hW7]
      have := HB4'.out
      iterate 6 (refine Below.setCell ?_ (by simp only []; omega) _)
      exact HB6.out)
    have HW7 := Lib.hid hW7
    clear hW7
    obtain ⟨w8, hrun8, hm8, hg8⟩ := put_drew (HBK.out.below HB7.out).map (by unfold maxLen; omega) HP64.out (.agg #[.int .i64 y.p, .int .i64 y.a.g, .int .i64 y.a.o, .int .i64 y.a.l, .int .i64 y.a.d, .int .i64 y.a.c, .int .i64 y.a.t, .int .i64 (sumA y.c ⟨x.a.g, (sumA x.a x.c).o, (sumA x.a x.c).l, (sumA x.a x.c).d, (sumA x.a x.c).c, (sumA x.a x.c).t⟩).g, .int .i64 (sumA y.c ⟨x.a.g, (sumA x.a x.c).o, (sumA x.a x.c).l, (sumA x.a x.c).d, (sumA x.a x.c).c, (sumA x.a x.c).t⟩).o, .int .i64 (sumA y.c ⟨x.a.g, (sumA x.a x.c).o, (sumA x.a x.c).l, (sumA x.a x.c).d, (sumA x.a x.c).c, (sumA x.a x.c).t⟩).l, .int .i64 (sumA y.c ⟨x.a.g, (sumA x.a x.c).o, (sumA x.a x.c).l, (sumA x.a x.c).d, (sumA x.a x.c).c, (sumA x.a x.c).t⟩).d, .int .i64 (sumA y.c ⟨x.a.g, (sumA x.a x.c).o, (sumA x.a x.c).l, (sumA x.a x.c).d, (sumA x.a x.c).c, (sumA x.a x.c).t⟩).c, .int .i64 (sumA y.c ⟨x.a.g, (sumA x.a x.c).o, (sumA x.a x.c).l, (sumA x.a x.c).d, (sumA x.a x.c).c, (sumA x.a x.c).t⟩).t])
    have HK8 := Lib.hid (keeps_turn HB7.out.drew hg8)
    have hg8' := hg8
    have hm8' := hm8
    clear hm8 hg8
    obtain ⟨g0, g1, g2, g3, g4, g5, g6, g7, g8, g9, g10, g11, g12⟩ := page13 HY6.out
    have fr := fun j => has_free HY6.out j
    have hw6 := HW.out _ HB6.out
    go_wp2_with fail
    rw [← HW7.out]
    have HD := Lib.hid (turn_upd HBK.out HB7.out.drew hg8' HY.out (f := closeUp x) (fun _ => rfl) (by simp only [closeUp, sumA, wrap_swap]) hm8')
    clear g0 g1 g2 g3 g4 g5 g6 g7 g8 g9 g10 g11 g12 fr hm8' hg8'
    obtain ⟨g0, g1, g2, g3, g4, g5, g6, g7, g8, g9, g10, g11, g12⟩ := page13 HY7.out
    have x0 := (page13 HX7.out).1
    have hw7 := HW.out _ HB7.out
    go_region
    have hw8 := has_cell HD.out.blk 0
    simp only [List.getElem?_toArray, List.getElem?_cons_zero] at hw8
    go_wp2_with (at_delete; refine wpList_vdel rfl _ _ MT HT rfl _ keyH Try.underlying44 Try.underlying25 mb _ _ rfl HD.out.map k rfl HKK.out ?_; intro w9 hm9 hg9)
    go_ret
    exact ⟨rfl, turn_del HD.out hg9 (HN.out.upd (f := closeUp x) (fun _ => rfl) _) (get_upd_some HX.out) hm9, HK8.out.grown hg9 (fun j e => .inl (by simpa using e.symm))⟩
set_option maxHeartbeats 2000000 in
set_option maxRecDepth 100000 in
theorem pclose_none (w : World) (b mb : Nat) (L : List Ln) (h : PBk w b mb L) (k : Int) (hk : I64 k) (hx : getB L k = none) :
    Calls Try.prog 8 #[.pointer (some ⟨b, 0, none⟩), .int .i64 k] w (PPost w b mb L 20) := by
  have hlt := h.lt
  have HBK := Lib.hid h
  have HP := Lib.hid (fun W (hb : Below w.heap.size w W) => pfind_none W b mb L (h.below hb) k hk hx)
  clear h hk hx
  go_enter Try.func8, Try.ntmps8
  go_wp2_with fail
  refine (HP.out _ (by repeat (first | exact Below.refl _ _ | (with_reducible assumption) | refine Below.drew ?_ | (refine Below.alloc ?_ (by first | exact Nat.le_refl _ | omega | (simp; done) | (simp; omega)) _) | (refine Below.setCell ?_ (by first | omega | (simp; done) | (simp; omega)) _)))).mono ?_
  rintro e w1 ⟨rfl, hb1⟩
  have HB1 := Lib.hid (bnext (show Below w.heap.size w _ from (by repeat (first | exact Below.refl _ _ | (with_reducible assumption) | refine Below.drew ?_ | (refine Below.alloc ?_ (by first | exact Nat.le_refl _ | omega | (simp; done) | (simp; omega)) _) | (refine Below.setCell ?_ (by first | omega | (simp; done) | (simp; omega)) _)))) hb1)
  clear hb1
  rw [errV_ne (by decide)]
  go_wp2_with fail
  go_ret
  exact ⟨by first | rfl | exact (congrArg Ending.returned (errV_ne (by decide)).symm), HBK.out.below (below_alloc HB1.out _), Keeps.of_below (below_alloc HB1.out _)⟩
set_option maxHeartbeats 2000000 in
set_option maxRecDepth 100000 in
theorem pclose_root (w : World) (b mb : Nat) (L : List Ln) (h : PBk w b mb L) (k : Int) (hk : I64 k) (x : Ln) (hx : getB L k = some x) (hp : x.p = 0) :
    Calls Try.prog 8 #[.pointer (some ⟨b, 0, none⟩), .int .i64 k] w (PPost w b mb L 91) := by
  have hlt := h.lt
  have HBK := Lib.hid h
  have HP := Lib.hid (fun W (hb : Below w.heap.size w W) => pfind_some W b mb L (h.below hb) k hk x hx)
  have z0 : (x.p == 0) = true := by simpa using hp
  clear h hk hx hp
  go_enter Try.func8, Try.ntmps8
  go_wp2_with fail
  refine (HP.out _ (by repeat (first | exact Below.refl _ _ | (with_reducible assumption) | refine Below.drew ?_ | (refine Below.alloc ?_ (by first | exact Nat.le_refl _ | omega | (simp; done) | (simp; omega)) _) | (refine Below.setCell ?_ (by first | omega | (simp; done) | (simp; omega)) _)))).mono ?_
  rintro e w1 ⟨rfl, hb1⟩
  have HB1 := Lib.hid (bnext (show Below w.heap.size w _ from (by repeat (first | exact Below.refl _ _ | (with_reducible assumption) | refine Below.drew ?_ | (refine Below.alloc ?_ (by first | exact Nat.le_refl _ | omega | (simp; done) | (simp; omega)) _) | (refine Below.setCell ?_ (by first | omega | (simp; done) | (simp; omega)) _)))) hb1)
  clear hb1
  go_wp2_with fail
  go_ret
  exact ⟨by first | rfl | exact (congrArg Ending.returned (errV_ne (by decide)).symm), HBK.out.below (below_alloc HB1.out _), Keeps.of_below (below_alloc HB1.out _)⟩
set_option maxHeartbeats 2000000 in
set_option maxRecDepth 100000 in
theorem pclose_arg (w : World) (b mb : Nat) (L : List Ln) (h : PBk w b mb L) (hn : Nd L) (hwf : ∀ x ∈ L, I64 x.h ∧ I64 x.p) (k : Int) (hk : I64 k) (x : Ln) (hx : getB L k = some x) (hp : x.p ≠ 0) (hbl : belowB L k = true) :
    Calls Try.prog 8 #[.pointer (some ⟨b, 0, none⟩), .int .i64 k] w (PPost w b mb L 1) := by
  have hlt := h.lt
  have HBK := Lib.hid h
  have HP := Lib.hid (fun W (hb : Below w.heap.size w W) => pfind_some W b mb L (h.below hb) k hk x hx)
  have HA := Lib.hid (fun W (hb : Below w.heap.size w W) => pabove W b mb L (h.below hb) hn (fun x hx => (hwf x hx).1) k)
  rw [hbl] at HA
  have z0 : (x.p == 0) = false := by simpa using hp
  clear h hk hx hp hbl
  go_enter Try.func8, Try.ntmps8
  go_wp2_with fail
  refine (HP.out _ (by repeat (first | exact Below.refl _ _ | (with_reducible assumption) | refine Below.drew ?_ | (refine Below.alloc ?_ (by first | exact Nat.le_refl _ | omega | (simp; done) | (simp; omega)) _) | (refine Below.setCell ?_ (by first | omega | (simp; done) | (simp; omega)) _)))).mono ?_
  rintro e w1 ⟨rfl, hb1⟩
  have HB1 := Lib.hid (bnext (show Below w.heap.size w _ from (by repeat (first | exact Below.refl _ _ | (with_reducible assumption) | refine Below.drew ?_ | (refine Below.alloc ?_ (by first | exact Nat.le_refl _ | omega | (simp; done) | (simp; omega)) _) | (refine Below.setCell ?_ (by first | omega | (simp; done) | (simp; omega)) _)))) hb1)
  clear hb1
  go_wp2_with fail
  refine (HA.out _ (below_alloc HB1.out _)).mono ?_
  rintro e w2 ⟨rfl, hb2⟩
  have HB2 := Lib.hid (bnext (below_alloc HB1.out _) hb2)
  clear hb2
  go_wp2_with fail
  go_ret
  exact ⟨by first | rfl | exact (congrArg Ending.returned (errV_ne (by decide)).symm), HBK.out.below (HB2.out), Keeps.of_below (HB2.out)⟩
theorem pclose (w : World) (b mb : Nat) (L : List Ln) (h : PBk w b mb L) (hl : L.length ≤ 100000) (hI : Inv L) (k : Int) (hk : I64 k) :
    Calls Try.prog 8 #[.pointer (some ⟨b, 0, none⟩), .int .i64 k] w (PPost w b mb (closeB L k) (closeE L k)) := by
  cases hx : getB L k with
  | none =>
    have hE : closeE L k = 20 := by unfold closeE; rw [hx]
    rw [show closeB L k = L from if_neg (by rw [hE]; decide), hE]
    exact pclose_none w b mb L h k hk hx
  | some x =>
    have hE : closeE L k = if x.p = 0 then 91 else if belowB L k then 1 else 0 := by unfold closeE; rw [hx]
    by_cases hp : x.p = 0
    · rw [if_pos hp] at hE
      rw [show closeB L k = L from if_neg (by rw [hE]; decide), hE]
      exact pclose_root w b mb L h k hk x hx hp
    · rw [if_neg hp] at hE
      cases hb : belowB L k with
      | true =>
        rw [hb, if_pos rfl] at hE
        rw [show closeB L k = L from if_neg (by rw [hE]; decide), hE]
        exact pclose_arg w b mb L h hI.nd hI.wf k hk x hx hp hb
      | false =>
        rw [hb, if_neg (by decide)] at hE
        obtain ⟨y, hy⟩ := hI.up x (get_some hx).2 hp
        have hC : closeB L k = delB (updB L x.p (closeUp x)) k := by unfold closeB; rw [if_pos hE, hx]
        rw [hC, hE]
        exact pclose_ok w b mb L h hl hI.nd hI.wf k hk x y hx hp hb hy
end Go.Proofs.Ytdbfjcdglcagaaa
