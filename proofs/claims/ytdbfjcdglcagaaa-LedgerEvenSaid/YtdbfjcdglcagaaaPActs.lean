/- The program's book: Of, Open; no condition but those that each row names. -/
import Derived.Test.YtdbfjcdglcagaaaPAdd
namespace Go.Proofs.Ytdbfjcdglcagaaa
open Go.RowKit Go.Maps Bk

/-- What an act of the program leaves. -/
def PPost (w : World) (b mb : Nat) (L' : List Ln) (n : Int) (e : Ending) (w' : World) : Prop := e = .returned (errV n) ∧ PBk w' b mb L' ∧ Keeps (fun x => x = mb) w w'
theorem keeps_turn {w w1 w2 : World} {mb : Nat} (h : Below w.heap.size w w1) (hg : w1.grownBy w2 (some mb)) : Keeps (fun x => x = mb) w w2 :=
  (Keeps.of_below (S := fun x => x = mb) h).grown hg (fun k e => .inl (by simpa using e.symm))
set_option maxHeartbeats 2000000 in
set_option maxRecDepth 100000 in
theorem pof (w : World) (b mb : Nat) (L : List Ln) (h : PBk w b mb L) (k : Int) (hk : I64 k) :
    Calls Try.prog 9 #[.pointer (some ⟨b, 0, none⟩), .int .i64 k] w fun e w' => e = .returned (.tuple #[aV (ofA L k), aV (ofC L k), errV (ofE L k)]) ∧ Below w.heap.size w w' := by
  unfold ofA ofC ofE
  cases hx : getB L k with
  | none =>
    have HP := Lib.hid (fun W (hb : Below w.heap.size w W) => pfind_none W b mb L (h.below hb) k hk hx)
    clear h hk hx
    go_enter Try.func9, Try.ntmps9
    go_wp2_with fail
    refine (HP.out _ (by repeat (first | exact Below.refl _ _ | (with_reducible assumption) | refine Below.drew ?_ | (refine Below.alloc ?_ (by first | exact Nat.le_refl _ | omega | (simp; done) | (simp; omega)) _) | (refine Below.setCell ?_ (by first | omega | (simp; done) | (simp; omega)) _)))).mono ?_
    rintro e w1 ⟨rfl, hb1⟩
    have HB1 := Lib.hid (bnext (show Below w.heap.size w _ from (by repeat (first | exact Below.refl _ _ | (with_reducible assumption) | refine Below.drew ?_ | (refine Below.alloc ?_ (by first | exact Nat.le_refl _ | omega | (simp; done) | (simp; omega)) _) | (refine Below.setCell ?_ (by first | omega | (simp; done) | (simp; omega)) _)))) hb1)
    obtain ⟨WA, hWA⟩ : ∃ WA, WA = w1.alloc (.cells #[.int .i64 0, .int .i64 0, .int .i64 0, .int .i64 0, .int .i64 0, .int .i64 0, .int .i64 0, .int .i64 0, .int .i64 0, .int .i64 0, .int .i64 0, .int .i64 0, .int .i64 0] 43) := ⟨_, rfl⟩
    have hA1 : Has WA w.heap.size (.cells #[.int .i64 0, .int .i64 0, .int .i64 0, .int .i64 0, .int .i64 0, .int .i64 0] 29) := by rw [hWA]; exact has_old (has_below (has_old (has_new _ _ w.heap.size rfl) _) hb1) _
    have hA2 : Has WA (w.heap.size + 1) (.cells #[.int .i64 0, .int .i64 0, .int .i64 0, .int .i64 0, .int .i64 0, .int .i64 0] 29) := by rw [hWA]; exact has_old (has_below (has_new _ _ (w.heap.size + 1) (by simp)) hb1) _
    have hA3 : Has WA w1.heap.size (.cells #[.int .i64 0, .int .i64 0, .int .i64 0, .int .i64 0, .int .i64 0, .int .i64 0, .int .i64 0, .int .i64 0, .int .i64 0, .int .i64 0, .int .i64 0, .int .i64 0, .int .i64 0] 43) := by rw [hWA]; exact has_new _ _ _ rfl
    obtain ⟨f1, d0, d1, d2, d3, d4, d5⟩ := res6 hA1
    obtain ⟨f2, e0, e1, e2, e3, e4, e5⟩ := res6 hA2
    have hz1 : w.heap.size + 1 < w1.heap.size := by have := hb1.size; simp at this; omega
    have g := fun j => has_cell hA3 j
    have g1 := g 1
    have g2 := g 2
    have g3 := g 3
    have g4 := g 4
    have g5 := g 5
    have g6 := g 6
    have g7 := g 7
    have g8 := g 8
    have g9 := g 9
    have g10 := g 10
    have g11 := g 11
    have g12 := g 12
    simp only [List.getElem?_toArray, List.getElem?_cons_zero, List.getElem?_cons_succ] at g1 g2 g3 g4 g5 g6 g7 g8 g9 g10 g11 g12
    have HW := Lib.hid hWA
    clear hb1 hWA hA1 hA2 hA3 g
    try rw [errV_ne (by decide)]
    go_wp2_with fail
    rw [← HW.out]
    go_region
    go_wp2_with fail
    refine bodyPost_ret (v := .tuple #[aV z6, aV z6, errV 20]) (by simp [results, Try.results9, go_sem, d0, d1, d2, d3, d4, d5, e0, e1, e2, e3, e4, e5, errV, z6]) rfl ⟨rfl, ?_⟩
    refine Below.drew ?_
    iterate 12 (refine Below.setCell ?_ (by first | exact Nat.le_refl _ | exact Nat.le_succ _) _)
    rw [HW.out]
    exact below_alloc HB1.out _
  | some x =>
    have HP := Lib.hid (fun W (hb : Below w.heap.size w W) => pfind_some W b mb L (h.below hb) k hk x hx)
    clear h hk hx
    go_enter Try.func9, Try.ntmps9
    go_wp2_with fail
    refine (HP.out _ (by repeat (first | exact Below.refl _ _ | (with_reducible assumption) | refine Below.drew ?_ | (refine Below.alloc ?_ (by first | exact Nat.le_refl _ | omega | (simp; done) | (simp; omega)) _) | (refine Below.setCell ?_ (by first | omega | (simp; done) | (simp; omega)) _)))).mono ?_
    rintro e w1 ⟨rfl, hb1⟩
    have HB1 := Lib.hid (bnext (show Below w.heap.size w _ from (by repeat (first | exact Below.refl _ _ | (with_reducible assumption) | refine Below.drew ?_ | (refine Below.alloc ?_ (by first | exact Nat.le_refl _ | omega | (simp; done) | (simp; omega)) _) | (refine Below.setCell ?_ (by first | omega | (simp; done) | (simp; omega)) _)))) hb1)
    obtain ⟨WA, hWA⟩ : ∃ WA, WA = w1.alloc (.cells #[.int .i64 x.p, .int .i64 x.a.g, .int .i64 x.a.o, .int .i64 x.a.l, .int .i64 x.a.d, .int .i64 x.a.c, .int .i64 x.a.t, .int .i64 x.c.g, .int .i64 x.c.o, .int .i64 x.c.l, .int .i64 x.c.d, .int .i64 x.c.c, .int .i64 x.c.t] 43) := ⟨_, rfl⟩
    have hA1 : Has WA w.heap.size (.cells #[.int .i64 0, .int .i64 0, .int .i64 0, .int .i64 0, .int .i64 0, .int .i64 0] 29) := by rw [hWA]; exact has_old (has_below (has_old (has_new _ _ w.heap.size rfl) _) hb1) _
    have hA2 : Has WA (w.heap.size + 1) (.cells #[.int .i64 0, .int .i64 0, .int .i64 0, .int .i64 0, .int .i64 0, .int .i64 0] 29) := by rw [hWA]; exact has_old (has_below (has_new _ _ (w.heap.size + 1) (by simp)) hb1) _
    have hA3 : Has WA w1.heap.size (.cells #[.int .i64 x.p, .int .i64 x.a.g, .int .i64 x.a.o, .int .i64 x.a.l, .int .i64 x.a.d, .int .i64 x.a.c, .int .i64 x.a.t, .int .i64 x.c.g, .int .i64 x.c.o, .int .i64 x.c.l, .int .i64 x.c.d, .int .i64 x.c.c, .int .i64 x.c.t] 43) := by rw [hWA]; exact has_new _ _ _ rfl
    obtain ⟨f1, d0, d1, d2, d3, d4, d5⟩ := res6 hA1
    obtain ⟨f2, e0, e1, e2, e3, e4, e5⟩ := res6 hA2
    have hz1 : w.heap.size + 1 < w1.heap.size := by have := hb1.size; simp at this; omega
    have g := fun j => has_cell hA3 j
    have g1 := g 1
    have g2 := g 2
    have g3 := g 3
    have g4 := g 4
    have g5 := g 5
    have g6 := g 6
    have g7 := g 7
    have g8 := g 8
    have g9 := g 9
    have g10 := g 10
    have g11 := g 11
    have g12 := g 12
    simp only [List.getElem?_toArray, List.getElem?_cons_zero, List.getElem?_cons_succ] at g1 g2 g3 g4 g5 g6 g7 g8 g9 g10 g11 g12
    have HW := Lib.hid hWA
    clear hb1 hWA hA1 hA2 hA3 g
    try rw [errV_ne (by decide)]
    go_wp2_with fail
    rw [← HW.out]
    go_region
    go_wp2_with fail
    refine bodyPost_ret (v := .tuple #[aV x.a, aV x.c, .nilIface]) (by simp [results, Try.results9, go_sem, d0, d1, d2, d3, d4, d5, e0, e1, e2, e3, e4, e5]) rfl ⟨rfl, ?_⟩
    refine Below.drew ?_
    iterate 12 (refine Below.setCell ?_ (by first | exact Nat.le_refl _ | exact Nat.le_succ _) _)
    rw [HW.out]
    exact below_alloc HB1.out _
set_option maxHeartbeats 2000000 in
set_option maxRecDepth 100000 in
theorem popen (w : World) (b mb : Nat) (L : List Ln) (h : PBk w b mb L) (hl : L.length ≤ 100000) (k p : Int) (hk : I64 k) (hp : I64 p) :
    Calls Try.prog 5 #[.pointer (some ⟨b, 0, none⟩), .int .i64 k, .int .i64 p] w (PPost w b mb (openB L k p) (openE L k p)) := by
  have hlt := h.lt
  have HW := Lib.hid (fun W (hb : Below w.heap.size w W) => has_cell (h.below hb).blk 0)
  simp only [List.getElem?_toArray, List.getElem?_cons_zero] at HW
  have HBK := Lib.hid h
  by_cases h0 : k = 0
  · subst h0
    have hE : openE L 0 p = 20 := if_pos (.inl rfl)
    rw [show openB L 0 p = L from if_neg (by rw [hE]; decide), hE]
    cases hx : getB L p with
    | none =>
      have HP := Lib.hid (fun W (hb : Below w.heap.size w W) => pfind_none W b mb L (h.below hb) p hp hx)
      clear h hk hx hE hp
      go_enter Try.func5, Try.ntmps5
      go_wp2_with fail
      refine (HP.out _ (by repeat (first | exact Below.refl _ _ | (with_reducible assumption) | refine Below.drew ?_ | (refine Below.alloc ?_ (by first | exact Nat.le_refl _ | omega | (simp; done) | (simp; omega)) _) | (refine Below.setCell ?_ (by first | omega | (simp; done) | (simp; omega)) _)))).mono ?_
      rintro e w1 ⟨rfl, hb1⟩
      have HB1 := Lib.hid (bnext (show Below w.heap.size w _ from (by repeat (first | exact Below.refl _ _ | (with_reducible assumption) | refine Below.drew ?_ | (refine Below.alloc ?_ (by first | exact Nat.le_refl _ | omega | (simp; done) | (simp; omega)) _) | (refine Below.setCell ?_ (by first | omega | (simp; done) | (simp; omega)) _)))) hb1)
      clear hb1
      try rw [errV_ne (by decide)]
      go_wp2_with fail
      go_ret
      exact ⟨by first | rfl | exact (congrArg Ending.returned (errV_ne (by decide)).symm), HBK.out.below (below_alloc HB1.out _), Keeps.of_below (below_alloc HB1.out _)⟩
    | some x =>
      have HP := Lib.hid (fun W (hb : Below w.heap.size w W) => pfind_some W b mb L (h.below hb) p hp x hx)
      clear h hk hx hE hp
      go_enter Try.func5, Try.ntmps5
      go_wp2_with fail
      refine (HP.out _ (by repeat (first | exact Below.refl _ _ | (with_reducible assumption) | refine Below.drew ?_ | (refine Below.alloc ?_ (by first | exact Nat.le_refl _ | omega | (simp; done) | (simp; omega)) _) | (refine Below.setCell ?_ (by first | omega | (simp; done) | (simp; omega)) _)))).mono ?_
      rintro e w1 ⟨rfl, hb1⟩
      have HB1 := Lib.hid (bnext (show Below w.heap.size w _ from (by repeat (first | exact Below.refl _ _ | (with_reducible assumption) | refine Below.drew ?_ | (refine Below.alloc ?_ (by first | exact Nat.le_refl _ | omega | (simp; done) | (simp; omega)) _) | (refine Below.setCell ?_ (by first | omega | (simp; done) | (simp; omega)) _)))) hb1)
      clear hb1
      try rw [errV_ne (by decide)]
      go_wp2_with fail
      go_ret
      exact ⟨by first | rfl | exact (congrArg Ending.returned (errV_ne (by decide)).symm), HBK.out.below (below_alloc HB1.out _), Keeps.of_below (below_alloc HB1.out _)⟩
  have z0 : (k == 0) = false := by simpa using h0
  cases hx : getB L p with
  | none =>
    have hE : openE L k p = 20 := if_pos (.inr hx)
    rw [show openB L k p = L from if_neg (by rw [hE]; decide), hE]
    have HP := Lib.hid (fun W (hb : Below w.heap.size w W) => pfind_none W b mb L (h.below hb) p hp hx)
    clear h hk hx hE hp h0
    go_enter Try.func5, Try.ntmps5
    go_wp2_with fail
    refine (HP.out _ (by repeat (first | exact Below.refl _ _ | (with_reducible assumption) | refine Below.drew ?_ | (refine Below.alloc ?_ (by first | exact Nat.le_refl _ | omega | (simp; done) | (simp; omega)) _) | (refine Below.setCell ?_ (by first | omega | (simp; done) | (simp; omega)) _)))).mono ?_
    rintro e w1 ⟨rfl, hb1⟩
    have HB1 := Lib.hid (bnext (show Below w.heap.size w _ from (by repeat (first | exact Below.refl _ _ | (with_reducible assumption) | refine Below.drew ?_ | (refine Below.alloc ?_ (by first | exact Nat.le_refl _ | omega | (simp; done) | (simp; omega)) _) | (refine Below.setCell ?_ (by first | omega | (simp; done) | (simp; omega)) _)))) hb1)
    clear hb1
    try rw [errV_ne (by decide)]
    go_wp2_with fail
    go_ret
    exact ⟨by first | rfl | exact (congrArg Ending.returned (errV_ne (by decide)).symm), HBK.out.below (below_alloc HB1.out _), Keeps.of_below (below_alloc HB1.out _)⟩
  | some x =>
    have HP := Lib.hid (fun W (hb : Below w.heap.size w W) => pfind_some W b mb L (h.below hb) p hp x hx)
    have hN : ¬ (k = 0 ∨ getB L p = none) := fun hh => by rcases hh with hh | hh; exact h0 hh; rw [hx] at hh; cases hh
    cases hy : getB L k with
    | some y =>
      have hE : openE L k p = 251 := by unfold openE; rw [if_neg hN, hy]; rfl
      rw [show openB L k p = L from if_neg (by rw [hE]; decide), hE]
      have HK := Lib.hid (fun W (hb : Below w.heap.size w W) => pfind_some W b mb L (h.below hb) k hk y hy)
      clear h hk hx hE hp h0 hN hy
      go_enter Try.func5, Try.ntmps5
      go_wp2_with fail
      refine (HP.out _ (by repeat (first | exact Below.refl _ _ | (with_reducible assumption) | refine Below.drew ?_ | (refine Below.alloc ?_ (by first | exact Nat.le_refl _ | omega | (simp; done) | (simp; omega)) _) | (refine Below.setCell ?_ (by first | omega | (simp; done) | (simp; omega)) _)))).mono ?_
      rintro e w1 ⟨rfl, hb1⟩
      have HB1 := Lib.hid (bnext (show Below w.heap.size w _ from (by repeat (first | exact Below.refl _ _ | (with_reducible assumption) | refine Below.drew ?_ | (refine Below.alloc ?_ (by first | exact Nat.le_refl _ | omega | (simp; done) | (simp; omega)) _) | (refine Below.setCell ?_ (by first | omega | (simp; done) | (simp; omega)) _)))) hb1)
      clear hb1
      try rw [errV_ne (by decide)]
      go_wp2_with fail
      refine (HK.out _ (below_alloc HB1.out _)).mono ?_
      rintro e w2 ⟨rfl, hb2⟩
      have HB2 := Lib.hid (bnext (below_alloc HB1.out _) hb2)
      clear hb2
      try rw [errV_ne (by decide)]
      go_wp2_with fail
      go_ret
      exact ⟨by first | rfl | exact (congrArg Ending.returned (errV_ne (by decide)).symm), HBK.out.below (below_alloc HB2.out _), Keeps.of_below (below_alloc HB2.out _)⟩
    | none =>
      have hE : openE L k p = 0 := by unfold openE; rw [if_neg hN, hy]; rfl
      rw [show openB L k p = L ++ [⟨k, p, z6, z6⟩] from if_pos hE, hE]
      have HK := Lib.hid (fun W (hb : Below w.heap.size w W) => pfind_none W b mb L (h.below hb) k hk hy)
      have HKK := Lib.hid hk
      have HF := Lib.hid (show (FL L k).isSome = false from by unfold FL; rw [hy]; rfl)
      have HG := Lib.hid (show ∀ y, (if y = k then some (pV ⟨k, p, z6, z6⟩) else FL L y) = FL (L ++ [⟨k, p, z6, z6⟩]) y from fun y => (FL_app (x := ⟨k, p, z6, z6⟩) hy y).symm)
      clear h hk hx hE hp h0 hN hy
      go_enter Try.func5, Try.ntmps5
      go_wp2_with fail
      refine (HP.out _ (by repeat (first | exact Below.refl _ _ | (with_reducible assumption) | refine Below.drew ?_ | (refine Below.alloc ?_ (by first | exact Nat.le_refl _ | omega | (simp; done) | (simp; omega)) _) | (refine Below.setCell ?_ (by first | omega | (simp; done) | (simp; omega)) _)))).mono ?_
      rintro e w1 ⟨rfl, hb1⟩
      have HB1 := Lib.hid (bnext (show Below w.heap.size w _ from (by repeat (first | exact Below.refl _ _ | (with_reducible assumption) | refine Below.drew ?_ | (refine Below.alloc ?_ (by first | exact Nat.le_refl _ | omega | (simp; done) | (simp; omega)) _) | (refine Below.setCell ?_ (by first | omega | (simp; done) | (simp; omega)) _)))) hb1)
      clear hb1
      try rw [errV_ne (by decide)]
      go_wp2_with fail
      refine (HK.out _ (below_alloc HB1.out _)).mono ?_
      rintro e w2 ⟨rfl, hb2⟩
      have HB2 := Lib.hid (bnext (below_alloc HB1.out _) hb2)
      clear hb2
      try rw [errV_ne (by decide)]
      have HB3 := Lib.hid (below_alloc HB2.out (.cells #[.int .i64 0, .int .i64 0, .int .i64 0, .int .i64 0, .int .i64 0, .int .i64 0, .int .i64 0, .int .i64 0, .int .i64 0, .int .i64 0, .int .i64 0, .int .i64 0, .int .i64 0] 43))
      have hw2 := HW.out _ HB3.out
      go_wp2_with (at_mapUpdate; refine wpList_vput rfl _ _ _ _ rfl _ _ keyH Try.underlying44 Try.underlying25 mb L.length (FL L) rfl (HBK.out.below HB3.out).map (by unfold maxLen; omega) k (pV ⟨k, p, z6, z6⟩) rfl rfl HKK.out ?_; intro w3 hm3 hg3)
      go_ret
      refine ⟨rfl, (HBK.out.below HB3.out).turn hg3 ?_, keeps_turn HB3.out hg3⟩
      rw [HF.out] at hm3
      rw [List.length_append]
      exact hm3.congr fun y _ => HG.out y
end Go.Proofs.Ytdbfjcdglcagaaa
