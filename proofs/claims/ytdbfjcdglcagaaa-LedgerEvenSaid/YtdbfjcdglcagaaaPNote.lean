/- The program's book: Note; no condition but those that each row names. -/
import Derived.Test.YtdbfjcdglcagaaaPActs
namespace Go.Proofs.Ytdbfjcdglcagaaa
open Go.RowKit Go.Maps Bk

theorem noteE_some {L : List Ln} {k kind : Int} {x : Ln} (hx : getB L k = some x) : noteE L k kind = if kind ≠ 8 ∧ kind ≠ 9 then 1 else if (kind = 8 ∧ 1073741824 ≤ x.a.d) ∨ (kind = 9 ∧ 1073741824 ≤ x.a.c) then 10 else 0 := by
  unfold noteE; rw [hx]
theorem put_drew {W : World} {b n : Nat} {F : Int → Option Value} (h : VMap Try.prog HT W b F n) (hn : n < maxLen) {x : Int} (hx : I64 x) (v : Value) :
    ∃ w', (Instr.mapUpdate MT (.map (some b)) (.int .i64 x) v).run Try.prog W.drew = .ok () w' ∧ VMap Try.prog HT w' b (fun y => if y = x then some v else F y) (if (F x).isSome then n else n + 1) ∧ W.drew.grownBy w' (some b) :=
  (h.same (w' := W.drew) rfl).put keyH Try.underlying44 Try.underlying25 hn hx v
/-- A page's block: what a walk asks of it. -/
theorem page13 {W : World} {g : Nat} {T : TypeId} {p g1 o1 l1 d1 c1 t1 g2 o2 l2 d2 c2 t2 : Int} (h : Has W g (.cells #[.int .i64 p, .int .i64 g1, .int .i64 o1, .int .i64 l1, .int .i64 d1, .int .i64 c1, .int .i64 t1, .int .i64 g2, .int .i64 o2, .int .i64 l2, .int .i64 d2, .int .i64 c2, .int .i64 t2] T)) :
    W.cell? ⟨g, 0, none⟩ = some (.int .i64 p) ∧ W.cell? ⟨g, 1, none⟩ = some (.int .i64 g1) ∧ W.cell? ⟨g, 2, none⟩ = some (.int .i64 o1) ∧ W.cell? ⟨g, 3, none⟩ = some (.int .i64 l1) ∧ W.cell? ⟨g, 4, none⟩ = some (.int .i64 d1) ∧ W.cell? ⟨g, 5, none⟩ = some (.int .i64 c1) ∧ W.cell? ⟨g, 6, none⟩ = some (.int .i64 t1) ∧
    W.cell? ⟨g, 7, none⟩ = some (.int .i64 g2) ∧ W.cell? ⟨g, 8, none⟩ = some (.int .i64 o2) ∧ W.cell? ⟨g, 9, none⟩ = some (.int .i64 l2) ∧ W.cell? ⟨g, 10, none⟩ = some (.int .i64 d2) ∧ W.cell? ⟨g, 11, none⟩ = some (.int .i64 c2) ∧ W.cell? ⟨g, 12, none⟩ = some (.int .i64 t2) :=
  ⟨has_cell h 0, has_cell h 1, has_cell h 2, has_cell h 3, has_cell h 4, has_cell h 5, has_cell h 6, has_cell h 7, has_cell h 8, has_cell h 9, has_cell h 10, has_cell h 11, has_cell h 12⟩
/-- The map behind a store at a handle that is open. -/
theorem turn_upd {w w1 w2 : World} {b mb : Nat} {L : List Ln} (h : PBk w b mb L) (hb : Below w.heap.size w w1) (hg : w1.grownBy w2 (some mb)) {k : Int} {x : Ln} (hx : getB L k = some x) {f : Ln → Ln} (hf : ∀ x, (f x).h = x.h) {v : Value} (hv : v = pV (f x))
    (hm : VMap Try.prog HT w2 mb (fun y => if y = k then some v else FL L y) (if (FL L k).isSome then L.length else L.length + 1)) : PBk w2 b mb (updB L k f) := by
  refine (h.below hb).turn hg ?_
  rw [show (FL L k).isSome = true from by unfold FL; rw [hx]; rfl] at hm
  rw [upd_len]
  subst hv
  exact hm.congr fun y _ => (FL_upd hf hx y).symm
set_option maxHeartbeats 2000000 in
set_option maxRecDepth 100000 in
theorem pnote_none (w : World) (b mb : Nat) (L : List Ln) (h : PBk w b mb L) (k : Int) (hk : I64 k) (kind : Int) (late : Bool) (hx : getB L k = none) :
    Calls Try.prog 7 #[.pointer (some ⟨b, 0, none⟩), .int .i64 k, .int .i64 kind, .bool late] w (PPost w b mb L 20) := by
  have hlt := h.lt
  have HBK := Lib.hid h
  have HP := Lib.hid (fun W (hb : Below w.heap.size w W) => pfind_none W b mb L (h.below hb) k hk hx)
  clear h hk hx
  go_enter Try.func7, Try.ntmps7
  go_wp2_with fail
  refine (HP.out _ (by repeat (first | exact Below.refl _ _ | (with_reducible assumption) | refine Below.drew ?_ | (refine Below.alloc ?_ (by first | exact Nat.le_refl _ | omega | (simp; done) | (simp; omega)) _) | (refine Below.setCell ?_ (by first | omega | (simp; done) | (simp; omega)) _)))).mono ?_
  rintro e w1 ⟨rfl, hb1⟩
  have HB1 := Lib.hid (bnext (show Below w.heap.size w _ from (by repeat (first | exact Below.refl _ _ | (with_reducible assumption) | refine Below.drew ?_ | (refine Below.alloc ?_ (by first | exact Nat.le_refl _ | omega | (simp; done) | (simp; omega)) _) | (refine Below.setCell ?_ (by first | omega | (simp; done) | (simp; omega)) _)))) hb1)
  clear hb1
  rw [errV_ne (by decide)]
  go_wp2_with fail
  go_ret
  exact ⟨by first | rfl | exact (congrArg Ending.returned (errV_ne (by decide)).symm), HBK.out.below (below_alloc HB1.out _), Keeps.of_below (below_alloc HB1.out _)⟩
set_option maxHeartbeats 2000000 in
set_option maxRecDepth 100000 in
theorem pnote_arg (w : World) (b mb : Nat) (L : List Ln) (h : PBk w b mb L) (k : Int) (hk : I64 k) (kind : Int) (late : Bool) (x : Ln) (hx : getB L k = some x) (h8 : kind ≠ 8) (h9 : kind ≠ 9) :
    Calls Try.prog 7 #[.pointer (some ⟨b, 0, none⟩), .int .i64 k, .int .i64 kind, .bool late] w (PPost w b mb L 1) := by
  have hlt := h.lt
  have HBK := Lib.hid h
  have HP := Lib.hid (fun W (hb : Below w.heap.size w W) => pfind_some W b mb L (h.below hb) k hk x hx)
  have z8 : (kind == 8) = false := by simpa using h8
  have z9 : (kind == 9) = false := by simpa using h9
  clear h hk hx h8 h9
  go_enter Try.func7, Try.ntmps7
  go_wp2_with fail
  refine (HP.out _ (by repeat (first | exact Below.refl _ _ | (with_reducible assumption) | refine Below.drew ?_ | (refine Below.alloc ?_ (by first | exact Nat.le_refl _ | omega | (simp; done) | (simp; omega)) _) | (refine Below.setCell ?_ (by first | omega | (simp; done) | (simp; omega)) _)))).mono ?_
  rintro e w1 ⟨rfl, hb1⟩
  have HB1 := Lib.hid (bnext (show Below w.heap.size w _ from (by repeat (first | exact Below.refl _ _ | (with_reducible assumption) | refine Below.drew ?_ | (refine Below.alloc ?_ (by first | exact Nat.le_refl _ | omega | (simp; done) | (simp; omega)) _) | (refine Below.setCell ?_ (by first | omega | (simp; done) | (simp; omega)) _)))) hb1)
  clear hb1
  go_wp2_with fail
  go_ret
  exact ⟨by first | rfl | exact (congrArg Ending.returned (errV_ne (by decide)).symm), HBK.out.below (below_alloc HB1.out _), Keeps.of_below (below_alloc HB1.out _)⟩
set_option maxHeartbeats 2000000 in
set_option maxRecDepth 100000 in
theorem pnote_over8 (w : World) (b mb : Nat) (L : List Ln) (h : PBk w b mb L) (k : Int) (hk : I64 k) (late : Bool) (x : Ln) (hx : getB L k = some x) (hm : x.a.d = 1073741824) :
    Calls Try.prog 7 #[.pointer (some ⟨b, 0, none⟩), .int .i64 k, .int .i64 8, .bool late] w (PPost w b mb L 10) := by
  have hlt := h.lt
  have HBK := Lib.hid h
  have HP := Lib.hid (fun W (hb : Below w.heap.size w W) => pfind_some W b mb L (h.below hb) k hk x hx)
  have z0 : (x.a.d == 1073741824) = true := by simpa using hm
  clear h hk hx hm
  go_enter Try.func7, Try.ntmps7
  go_wp2_with fail
  refine (HP.out _ (by repeat (first | exact Below.refl _ _ | (with_reducible assumption) | refine Below.drew ?_ | (refine Below.alloc ?_ (by first | exact Nat.le_refl _ | omega | (simp; done) | (simp; omega)) _) | (refine Below.setCell ?_ (by first | omega | (simp; done) | (simp; omega)) _)))).mono ?_
  rintro e w1 ⟨rfl, hb1⟩
  have HB1 := Lib.hid (bnext (show Below w.heap.size w _ from (by repeat (first | exact Below.refl _ _ | (with_reducible assumption) | refine Below.drew ?_ | (refine Below.alloc ?_ (by first | exact Nat.le_refl _ | omega | (simp; done) | (simp; omega)) _) | (refine Below.setCell ?_ (by first | omega | (simp; done) | (simp; omega)) _)))) hb1)
  clear hb1
  go_wp2_with fail
  go_ret
  exact ⟨by first | rfl | exact (congrArg Ending.returned (errV_ne (by decide)).symm), HBK.out.below (below_alloc HB1.out _), Keeps.of_below (below_alloc HB1.out _)⟩
set_option maxHeartbeats 2000000 in
set_option maxRecDepth 100000 in
theorem pnote_ok8 (w : World) (b mb : Nat) (L : List Ln) (h : PBk w b mb L) (hl : L.length ≤ 100000) (k : Int) (hk : I64 k) (late : Bool) (x : Ln) (hx : getB L k = some x) (hm : x.a.d ≠ 1073741824) :
    Calls Try.prog 7 #[.pointer (some ⟨b, 0, none⟩), .int .i64 k, .int .i64 8, .bool late] w (PPost w b mb (updB L k (noteUp 8 late)) 0) := by
  have hlt := h.lt
  have HBK := Lib.hid h
  have HP := Lib.hid (fun W (hb : Below w.heap.size w W) => pfind_some W b mb L (h.below hb) k hk x hx)
  have z0 : (x.a.d == 1073741824) = false := by simpa using hm
  have HKK := Lib.hid hk
  have HX := Lib.hid hx
  have HW := Lib.hid (fun W (hb : Below w.heap.size w W) => has_cell (h.below hb).blk 0)
  simp only [List.getElem?_toArray, List.getElem?_cons_zero] at HW
  clear h hk hx hm
  cases late with
  | false =>
    go_enter Try.func7, Try.ntmps7
    go_wp2_with fail
    refine (HP.out _ (by repeat (first | exact Below.refl _ _ | (with_reducible assumption) | refine Below.drew ?_ | (refine Below.alloc ?_ (by first | exact Nat.le_refl _ | omega | (simp; done) | (simp; omega)) _) | (refine Below.setCell ?_ (by first | omega | (simp; done) | (simp; omega)) _)))).mono ?_
    rintro e w1 ⟨rfl, hb1⟩
    have HB1 := Lib.hid (bnext (show Below w.heap.size w _ from (by repeat (first | exact Below.refl _ _ | (with_reducible assumption) | refine Below.drew ?_ | (refine Below.alloc ?_ (by first | exact Nat.le_refl _ | omega | (simp; done) | (simp; omega)) _) | (refine Below.setCell ?_ (by first | omega | (simp; done) | (simp; omega)) _)))) hb1)
    clear hb1
    obtain ⟨W2, hW2⟩ : ∃ W2, W2 = w1.alloc (.cells #[.int .i64 x.p, .int .i64 x.a.g, .int .i64 x.a.o, .int .i64 x.a.l, .int .i64 (wrap64 (x.a.d + 1)), .int .i64 x.a.c, .int .i64 x.a.t, .int .i64 x.c.g, .int .i64 x.c.o, .int .i64 x.c.l, .int .i64 x.c.d, .int .i64 x.c.c, .int .i64 x.c.t] 43) := ⟨_, rfl⟩
    have HB3 := Lib.hid (show Below w.heap.size w W2 from by rw [hW2]; exact below_alloc HB1.out _)
    have hw0 := HW.out w1 HB1.out
    have hw2 := HW.out _ HB3.out
    obtain ⟨g0, g1, g2, g3, g4, g5, g6, g7, g8, g9, g10, g11, g12⟩ := page13 (show Has W2 w1.heap.size _ from by rw [hW2]; exact has_new _ _ _ rfl)
    obtain ⟨w3, hrun, hm3, hg3⟩ := put_drew (HBK.out.below HB3.out).map (by unfold maxLen; omega) HKK.out (.agg #[.int .i64 x.p, .int .i64 x.a.g, .int .i64 x.a.o, .int .i64 x.a.l, .int .i64 (wrap64 (x.a.d + 1)), .int .i64 x.a.c, .int .i64 x.a.t, .int .i64 x.c.g, .int .i64 x.c.o, .int .i64 x.c.l, .int .i64 x.c.d, .int .i64 x.c.c, .int .i64 x.c.t])
    have HF := Lib.hid (turn_upd HBK.out HB3.out.drew hg3 HX.out (f := noteUp 8 false) (fun _ => rfl) rfl hm3)
    have HK3 := Lib.hid (keeps_turn HB3.out.drew hg3)
    have HW2 := Lib.hid hW2
    clear hm3 hg3 hW2
    go_wp2_with fail
    rw [← HW2.out]
    go_region
    go_wp2_with fail
    go_ret
    exact ⟨rfl, HF.out, HK3.out⟩
  | true =>
    go_enter Try.func7, Try.ntmps7
    go_wp2_with fail
    refine (HP.out _ (by repeat (first | exact Below.refl _ _ | (with_reducible assumption) | refine Below.drew ?_ | (refine Below.alloc ?_ (by first | exact Nat.le_refl _ | omega | (simp; done) | (simp; omega)) _) | (refine Below.setCell ?_ (by first | omega | (simp; done) | (simp; omega)) _)))).mono ?_
    rintro e w1 ⟨rfl, hb1⟩
    have HB1 := Lib.hid (bnext (show Below w.heap.size w _ from (by repeat (first | exact Below.refl _ _ | (with_reducible assumption) | refine Below.drew ?_ | (refine Below.alloc ?_ (by first | exact Nat.le_refl _ | omega | (simp; done) | (simp; omega)) _) | (refine Below.setCell ?_ (by first | omega | (simp; done) | (simp; omega)) _)))) hb1)
    clear hb1
    obtain ⟨W2, hW2⟩ : ∃ W2, W2 = w1.alloc (.cells #[.int .i64 x.p, .int .i64 x.a.g, .int .i64 x.a.o, .int .i64 x.a.l, .int .i64 (wrap64 (x.a.d + 1)), .int .i64 x.a.c, .int .i64 (wrap64 (x.a.t + 1)), .int .i64 x.c.g, .int .i64 x.c.o, .int .i64 x.c.l, .int .i64 x.c.d, .int .i64 x.c.c, .int .i64 x.c.t] 43) := ⟨_, rfl⟩
    have HB3 := Lib.hid (show Below w.heap.size w W2 from by rw [hW2]; exact below_alloc HB1.out _)
    have hw0 := HW.out w1 HB1.out
    have hw2 := HW.out _ HB3.out
    obtain ⟨g0, g1, g2, g3, g4, g5, g6, g7, g8, g9, g10, g11, g12⟩ := page13 (show Has W2 w1.heap.size _ from by rw [hW2]; exact has_new _ _ _ rfl)
    obtain ⟨w3, hrun, hm3, hg3⟩ := put_drew (HBK.out.below HB3.out).map (by unfold maxLen; omega) HKK.out (.agg #[.int .i64 x.p, .int .i64 x.a.g, .int .i64 x.a.o, .int .i64 x.a.l, .int .i64 (wrap64 (x.a.d + 1)), .int .i64 x.a.c, .int .i64 (wrap64 (x.a.t + 1)), .int .i64 x.c.g, .int .i64 x.c.o, .int .i64 x.c.l, .int .i64 x.c.d, .int .i64 x.c.c, .int .i64 x.c.t])
    have HF := Lib.hid (turn_upd HBK.out HB3.out.drew hg3 HX.out (f := noteUp 8 true) (fun _ => rfl) rfl hm3)
    have HK3 := Lib.hid (keeps_turn HB3.out.drew hg3)
    have HW2 := Lib.hid hW2
    clear hm3 hg3 hW2
    go_wp2_with fail
    rw [← HW2.out]
    go_region
    go_wp2_with fail
    go_ret
    exact ⟨rfl, HF.out, HK3.out⟩
set_option maxHeartbeats 2000000 in
set_option maxRecDepth 100000 in
theorem pnote_over9 (w : World) (b mb : Nat) (L : List Ln) (h : PBk w b mb L) (k : Int) (hk : I64 k) (late : Bool) (x : Ln) (hx : getB L k = some x) (hm : x.a.c = 1073741824) :
    Calls Try.prog 7 #[.pointer (some ⟨b, 0, none⟩), .int .i64 k, .int .i64 9, .bool late] w (PPost w b mb L 10) := by
  have hlt := h.lt
  have HBK := Lib.hid h
  have HP := Lib.hid (fun W (hb : Below w.heap.size w W) => pfind_some W b mb L (h.below hb) k hk x hx)
  have z0 : (x.a.c == 1073741824) = true := by simpa using hm
  clear h hk hx hm
  go_enter Try.func7, Try.ntmps7
  go_wp2_with fail
  refine (HP.out _ (by repeat (first | exact Below.refl _ _ | (with_reducible assumption) | refine Below.drew ?_ | (refine Below.alloc ?_ (by first | exact Nat.le_refl _ | omega | (simp; done) | (simp; omega)) _) | (refine Below.setCell ?_ (by first | omega | (simp; done) | (simp; omega)) _)))).mono ?_
  rintro e w1 ⟨rfl, hb1⟩
  have HB1 := Lib.hid (bnext (show Below w.heap.size w _ from (by repeat (first | exact Below.refl _ _ | (with_reducible assumption) | refine Below.drew ?_ | (refine Below.alloc ?_ (by first | exact Nat.le_refl _ | omega | (simp; done) | (simp; omega)) _) | (refine Below.setCell ?_ (by first | omega | (simp; done) | (simp; omega)) _)))) hb1)
  clear hb1
  go_wp2_with fail
  go_ret
  exact ⟨by first | rfl | exact (congrArg Ending.returned (errV_ne (by decide)).symm), HBK.out.below (below_alloc HB1.out _), Keeps.of_below (below_alloc HB1.out _)⟩
set_option maxHeartbeats 2000000 in
set_option maxRecDepth 100000 in
theorem pnote_ok9 (w : World) (b mb : Nat) (L : List Ln) (h : PBk w b mb L) (hl : L.length ≤ 100000) (k : Int) (hk : I64 k) (late : Bool) (x : Ln) (hx : getB L k = some x) (hm : x.a.c ≠ 1073741824) :
    Calls Try.prog 7 #[.pointer (some ⟨b, 0, none⟩), .int .i64 k, .int .i64 9, .bool late] w (PPost w b mb (updB L k (noteUp 9 late)) 0) := by
  have hlt := h.lt
  have HBK := Lib.hid h
  have HP := Lib.hid (fun W (hb : Below w.heap.size w W) => pfind_some W b mb L (h.below hb) k hk x hx)
  have z0 : (x.a.c == 1073741824) = false := by simpa using hm
  have HKK := Lib.hid hk
  have HX := Lib.hid hx
  have HW := Lib.hid (fun W (hb : Below w.heap.size w W) => has_cell (h.below hb).blk 0)
  simp only [List.getElem?_toArray, List.getElem?_cons_zero] at HW
  clear h hk hx hm
  cases late with
  | false =>
    go_enter Try.func7, Try.ntmps7
    go_wp2_with fail
    refine (HP.out _ (by repeat (first | exact Below.refl _ _ | (with_reducible assumption) | refine Below.drew ?_ | (refine Below.alloc ?_ (by first | exact Nat.le_refl _ | omega | (simp; done) | (simp; omega)) _) | (refine Below.setCell ?_ (by first | omega | (simp; done) | (simp; omega)) _)))).mono ?_
    rintro e w1 ⟨rfl, hb1⟩
    have HB1 := Lib.hid (bnext (show Below w.heap.size w _ from (by repeat (first | exact Below.refl _ _ | (with_reducible assumption) | refine Below.drew ?_ | (refine Below.alloc ?_ (by first | exact Nat.le_refl _ | omega | (simp; done) | (simp; omega)) _) | (refine Below.setCell ?_ (by first | omega | (simp; done) | (simp; omega)) _)))) hb1)
    clear hb1
    obtain ⟨W2, hW2⟩ : ∃ W2, W2 = w1.alloc (.cells #[.int .i64 x.p, .int .i64 x.a.g, .int .i64 x.a.o, .int .i64 x.a.l, .int .i64 x.a.d, .int .i64 (wrap64 (x.a.c + 1)), .int .i64 x.a.t, .int .i64 x.c.g, .int .i64 x.c.o, .int .i64 x.c.l, .int .i64 x.c.d, .int .i64 x.c.c, .int .i64 x.c.t] 43) := ⟨_, rfl⟩
    have HB3 := Lib.hid (show Below w.heap.size w W2 from by rw [hW2]; exact below_alloc HB1.out _)
    have hw0 := HW.out w1 HB1.out
    have hw2 := HW.out _ HB3.out
    obtain ⟨g0, g1, g2, g3, g4, g5, g6, g7, g8, g9, g10, g11, g12⟩ := page13 (show Has W2 w1.heap.size _ from by rw [hW2]; exact has_new _ _ _ rfl)
    obtain ⟨w3, hrun, hm3, hg3⟩ := put_drew (HBK.out.below HB3.out).map (by unfold maxLen; omega) HKK.out (.agg #[.int .i64 x.p, .int .i64 x.a.g, .int .i64 x.a.o, .int .i64 x.a.l, .int .i64 x.a.d, .int .i64 (wrap64 (x.a.c + 1)), .int .i64 x.a.t, .int .i64 x.c.g, .int .i64 x.c.o, .int .i64 x.c.l, .int .i64 x.c.d, .int .i64 x.c.c, .int .i64 x.c.t])
    have HF := Lib.hid (turn_upd HBK.out HB3.out.drew hg3 HX.out (f := noteUp 9 false) (fun _ => rfl) rfl hm3)
    have HK3 := Lib.hid (keeps_turn HB3.out.drew hg3)
    have HW2 := Lib.hid hW2
    clear hm3 hg3 hW2
    go_wp2_with fail
    rw [← HW2.out]
    go_region
    go_wp2_with fail
    go_ret
    exact ⟨rfl, HF.out, HK3.out⟩
  | true =>
    go_enter Try.func7, Try.ntmps7
    go_wp2_with fail
    refine (HP.out _ (by repeat (first | exact Below.refl _ _ | (with_reducible assumption) | refine Below.drew ?_ | (refine Below.alloc ?_ (by first | exact Nat.le_refl _ | omega | (simp; done) | (simp; omega)) _) | (refine Below.setCell ?_ (by first | omega | (simp; done) | (simp; omega)) _)))).mono ?_
    rintro e w1 ⟨rfl, hb1⟩
    have HB1 := Lib.hid (bnext (show Below w.heap.size w _ from (by repeat (first | exact Below.refl _ _ | (with_reducible assumption) | refine Below.drew ?_ | (refine Below.alloc ?_ (by first | exact Nat.le_refl _ | omega | (simp; done) | (simp; omega)) _) | (refine Below.setCell ?_ (by first | omega | (simp; done) | (simp; omega)) _)))) hb1)
    clear hb1
    obtain ⟨W2, hW2⟩ : ∃ W2, W2 = w1.alloc (.cells #[.int .i64 x.p, .int .i64 x.a.g, .int .i64 x.a.o, .int .i64 x.a.l, .int .i64 x.a.d, .int .i64 (wrap64 (x.a.c + 1)), .int .i64 (wrap64 (x.a.t + 1)), .int .i64 x.c.g, .int .i64 x.c.o, .int .i64 x.c.l, .int .i64 x.c.d, .int .i64 x.c.c, .int .i64 x.c.t] 43) := ⟨_, rfl⟩
    have HB3 := Lib.hid (show Below w.heap.size w W2 from by rw [hW2]; exact below_alloc HB1.out _)
    have hw0 := HW.out w1 HB1.out
    have hw2 := HW.out _ HB3.out
    obtain ⟨g0, g1, g2, g3, g4, g5, g6, g7, g8, g9, g10, g11, g12⟩ := page13 (show Has W2 w1.heap.size _ from by rw [hW2]; exact has_new _ _ _ rfl)
    obtain ⟨w3, hrun, hm3, hg3⟩ := put_drew (HBK.out.below HB3.out).map (by unfold maxLen; omega) HKK.out (.agg #[.int .i64 x.p, .int .i64 x.a.g, .int .i64 x.a.o, .int .i64 x.a.l, .int .i64 x.a.d, .int .i64 (wrap64 (x.a.c + 1)), .int .i64 (wrap64 (x.a.t + 1)), .int .i64 x.c.g, .int .i64 x.c.o, .int .i64 x.c.l, .int .i64 x.c.d, .int .i64 x.c.c, .int .i64 x.c.t])
    have HF := Lib.hid (turn_upd HBK.out HB3.out.drew hg3 HX.out (f := noteUp 9 true) (fun _ => rfl) rfl hm3)
    have HK3 := Lib.hid (keeps_turn HB3.out.drew hg3)
    have HW2 := Lib.hid hW2
    clear hm3 hg3 hW2
    go_wp2_with fail
    rw [← HW2.out]
    go_region
    go_wp2_with fail
    go_ret
    exact ⟨rfl, HF.out, HK3.out⟩
theorem pnote (w : World) (b mb : Nat) (L : List Ln) (h : PBk w b mb L) (hl : L.length ≤ 100000) (hdc : ∀ x ∈ L, x.a.d ≤ 1073741824 ∧ x.a.c ≤ 1073741824) (k : Int) (hk : I64 k) (kind : Int) (late : Bool) :
    Calls Try.prog 7 #[.pointer (some ⟨b, 0, none⟩), .int .i64 k, .int .i64 kind, .bool late] w (PPost w b mb (noteB L k kind late) (noteE L k kind)) := by
  unfold noteB
  cases hx : getB L k with
  | none =>
    have hE : noteE L k kind = 20 := by unfold noteE; rw [hx]
    rw [hE, if_neg (by decide)]
    exact pnote_none w b mb L h k hk kind late hx
  | some x =>
    have hd := hdc x (get_some hx).2
    by_cases h8 : kind = 8
    · subst h8
      by_cases hm : x.a.d = 1073741824
      · have hE : noteE L k 8 = 10 := by rw [noteE_some hx, if_neg (by decide), if_pos (.inl ⟨rfl, by omega⟩)]
        rw [hE, if_neg (by decide)]
        exact pnote_over8 w b mb L h k hk late x hx hm
      · have hE : noteE L k 8 = 0 := by rw [noteE_some hx, if_neg (by decide), if_neg (by omega)]
        rw [hE, if_pos rfl]
        exact pnote_ok8 w b mb L h hl k hk late x hx hm
    · by_cases h9 : kind = 9
      · subst h9
        by_cases hm : x.a.c = 1073741824
        · have hE : noteE L k 9 = 10 := by rw [noteE_some hx, if_neg (by decide), if_pos (.inr ⟨rfl, by omega⟩)]
          rw [hE, if_neg (by decide)]
          exact pnote_over9 w b mb L h k hk late x hx hm
        · have hE : noteE L k 9 = 0 := by rw [noteE_some hx, if_neg (by decide), if_neg (by omega)]
          rw [hE, if_pos rfl]
          exact pnote_ok9 w b mb L h hl k hk late x hx hm
      · have hE : noteE L k kind = 1 := by rw [noteE_some hx]; exact if_pos ⟨h8, h9⟩
        rw [hE, if_neg (by decide)]
        exact pnote_arg w b mb L h k hk kind late x hx h8 h9
end Go.Proofs.Ytdbfjcdglcagaaa
