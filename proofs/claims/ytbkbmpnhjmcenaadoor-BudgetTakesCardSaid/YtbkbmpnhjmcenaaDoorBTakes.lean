/- The walk of the law BudgetTakes: it answers true for every budget; it writes nothing that was there; of the listed variable its one cell is asked. -/
import Derived.Test.YtbkbmpnhjmcenaaDoorBBox
import Derived.Deep.RegionHeld3
namespace Go.Proofs.YtbkbmpnhjmcenaaDoor
open Go.RowKit

/-- What a region's calls leave: the cells of W0, the listed variable's cell. -/
theorem keepW {W0 w w1 w2 : World} (h : ∀ b o, b < W0.heap.size → w1.cell? ⟨b, o, none⟩ = W0.cell? ⟨b, o, none⟩) (hl : LaidAt w1) (hB : Below w.heap.size w w1) (hz : W0.heap.size ≤ w1.heap.size) (hb : Below w1.heap.size w1 w2) :
    (∀ b o, b < W0.heap.size → w2.cell? ⟨b, o, none⟩ = W0.cell? ⟨b, o, none⟩) ∧ LaidAt w2 ∧ Below w.heap.size w w2 ∧ W0.heap.size ≤ w2.heap.size :=
  ⟨fun b o k => (hb.cell (p := ⟨b, o, none⟩) (Nat.lt_of_lt_of_le k hz)).trans (h b o k), hl.below hb, bnext hB hb, Nat.le_trans hz hb.size⟩

set_option maxHeartbeats 8000000 in
set_option maxRecDepth 100000 in
theorem takes_of (a0 a1 a2 a3 : Int) (a4 : Bool) (a5 a6 a7 : Int) (c0 c1 c2 c3 : Int) (c4 : Bool) (c5 c6 c7 : Int) (g0 g1 g2 g3 : Int) (g4 : Bool) (g5 g6 g7 : Int) (n1 n2 n3 : Int) (x1 x2 x3 : Value) (w : World) (hg : LaidAt w) (hx1 : ErrV x1 n1) (hx2 : ErrV x2 n2) (hx3 : ErrV x3 n3)
    (H1 : ∀ w, Calls Tryd.prog 11 #[.agg #[.int .i64 a0, .int .i64 a1, .int .i64 a2, .int .i64 a3, .bool a4, .int .i64 a5, .int .i64 a6, .int .i64 a7]] w fun e w' => e = .returned (.tuple #[.agg #[.int .i64 c0, .int .i64 c1, .int .i64 c2, .int .i64 c3, .bool c4, .int .i64 c5, .int .i64 c6, .int .i64 c7], x1]) ∧ Below w.heap.size w w')
    (H2 : ∀ w, Calls Tryd.prog 12 #[.agg #[.int .i64 a0, .int .i64 a1, .int .i64 a2, .int .i64 a3, .bool a4, .int .i64 a5, .int .i64 a6, .int .i64 a7]] w fun e w' => e = .returned (.tuple #[.agg #[.int .i64 c0, .int .i64 c1, .int .i64 c2, .int .i64 c3, .bool c4, .int .i64 c5, .int .i64 c6, .int .i64 c7], .int .i64 n1]) ∧ Below w.heap.size w w')
    (H3 : ∀ w, Calls Tryd.prog 13 #[.agg #[.int .i64 a0, .int .i64 a1, .int .i64 a2, .int .i64 a3, .bool a4, .int .i64 a5, .int .i64 a6, .int .i64 a7]] w fun e w' => e = .returned (.tuple #[.agg #[.int .i64 g0, .int .i64 g1, .int .i64 g2, .int .i64 g3, .bool g4, .int .i64 g5, .int .i64 g6, .int .i64 g7], x2]) ∧ Below w.heap.size w w')
    (H4 : ∀ w, Calls Tryd.prog 14 #[.agg #[.int .i64 a0, .int .i64 a1, .int .i64 a2, .int .i64 a3, .bool a4, .int .i64 a5, .int .i64 a6, .int .i64 a7]] w fun e w' => e = .returned (.tuple #[.agg #[.int .i64 g0, .int .i64 g1, .int .i64 g2, .int .i64 g3, .bool g4, .int .i64 g5, .int .i64 g6, .int .i64 g7], .int .i64 n2]) ∧ Below w.heap.size w w')
    (H5 : ∀ w, Calls Tryd.prog 15 #[.agg #[.int .i64 a0, .int .i64 a1, .int .i64 a2, .int .i64 a3, .bool a4, .int .i64 a5, .int .i64 a6, .int .i64 a7]] w fun e w' => e = .returned (x3) ∧ Below w.heap.size w w')
    (H6 : ∀ w, Calls Tryd.prog 16 #[.agg #[.int .i64 a0, .int .i64 a1, .int .i64 a2, .int .i64 a3, .bool a4, .int .i64 a5, .int .i64 a6, .int .i64 a7]] w fun e w' => e = .returned (.int .i64 n3) ∧ Below w.heap.size w w') :
    Calls Tryd.prog 4 #[.agg #[.int .i64 a0, .int .i64 a1, .int .i64 a2, .int .i64 a3, .bool a4, .int .i64 a5, .int .i64 a6, .int .i64 a7]] w fun e w' => e = .returned (.bool true) ∧ Below w.heap.size w w' := by
  have HZ := Lib.hid hg
  clear hg
  have J1 := Lib.hid H1
  have J2 := Lib.hid H2
  have J3 := Lib.hid H3
  have J4 := Lib.hid H4
  have J5 := Lib.hid H5
  have J6 := Lib.hid H6
  have X1 := Lib.hid hx1
  have X2 := Lib.hid hx2
  have X3 := Lib.hid hx3
  clear H1 H2 H3 H4 H5 H6 hx1 hx2 hx3
  have HA0 := Lib.hid ((Bx.new w 30 (.int .i64 a0) (.int .i64 a1) (.int .i64 a2) (.int .i64 a3) (.bool a4) (.int .i64 a5) (.int .i64 a6) (.int .i64 a7)).alloc (.cells #[.int .i64 a0, .int .i64 a1, .int .i64 a2, .int .i64 a3, .bool a4, .int .i64 a5, .int .i64 a6, .int .i64 a7] 25))
  have HB0 := Lib.hid (Bx.new (w.alloc (.cells #[.int .i64 a0, .int .i64 a1, .int .i64 a2, .int .i64 a3, .bool a4, .int .i64 a5, .int .i64 a6, .int .i64 a7] 30)) 25 (.int .i64 a0) (.int .i64 a1) (.int .i64 a2) (.int .i64 a3) (.bool a4) (.int .i64 a5) (.int .i64 a6) (.int .i64 a7))
  go_enter Tryd.func4, Tryd.ntmps4
  go_wp2_with fail
  refine (J1.out _).mono ?_
  rintro e w1 ⟨rfl, hb1⟩
  have A1 : Hid (Bx w1 w.heap.size (.int .i64 a0) (.int .i64 a1) (.int .i64 a2) (.int .i64 a3) (.bool a4) (.int .i64 a5) (.int .i64 a6) (.int .i64 a7)) := Lib.hid (HA0.out.below hb1)
  have B1 : Hid (Bx w1 (w.heap.size + 1) (.int .i64 a0) (.int .i64 a1) (.int .i64 a2) (.int .i64 a3) (.bool a4) (.int .i64 a5) (.int .i64 a6) (.int .i64 a7)) := Lib.hid (by have := HB0.out.below hb1; simpa using this)
  have E1 : Hid (Below w.heap.size w w1) := Lib.hid (bnext (((Below.refl _ _).alloc (Nat.le_refl _) _).alloc (by simp) _) hb1)
  clear hb1 HA0 HB0
  have y1 : w.heap.size + 1 < w1.heap.size := B1.out.lt
  have y1' : w.heap.size < w1.heap.size := by omega
  have C1 := Lib.hid (Bx.new w1 25 (.int .i64 c0) (.int .i64 c1) (.int .i64 c2) (.int .i64 c3) (.bool c4) (.int .i64 c5) (.int .i64 c6) (.int .i64 c7))
  obtain ⟨a1_0, a1_1, a1_2, a1_3, a1_4, a1_5, a1_6, a1_7⟩ := A1.out.cells
  go_wp2_with fail
  refine (J2.out _).mono ?_
  rintro e w2 ⟨rfl, hb2⟩
  have A2 : Hid (Bx w2 (w.heap.size) (.int .i64 a0) (.int .i64 a1) (.int .i64 a2) (.int .i64 a3) (.bool a4) (.int .i64 a5) (.int .i64 a6) (.int .i64 a7)) := Lib.hid ((A1.out.alloc _).below hb2)
  have B2 : Hid (Bx w2 (w.heap.size + 1) (.int .i64 a0) (.int .i64 a1) (.int .i64 a2) (.int .i64 a3) (.bool a4) (.int .i64 a5) (.int .i64 a6) (.int .i64 a7)) := Lib.hid ((B1.out.alloc _).below hb2)
  have C2 : Hid (Bx w2 w1.heap.size (.int .i64 c0) (.int .i64 c1) (.int .i64 c2) (.int .i64 c3) (.bool c4) (.int .i64 c5) (.int .i64 c6) (.int .i64 c7)) := Lib.hid (C1.out.below hb2)
  have E2 : Hid (Below w.heap.size w w2) := Lib.hid (bnext (E1.out.alloc (Nat.le_of_lt y1') _) hb2)
  have y2 : w1.heap.size < w2.heap.size := C2.out.lt
  have y2' : w.heap.size + 1 < w2.heap.size := B2.out.lt
  clear hb2 A1 B1 C1 a1_0 a1_1 a1_2 a1_3 a1_4 a1_5 a1_6 a1_7
  have D2 := Lib.hid (Bx.new w2 30 (.int .i64 c0) (.int .i64 c1) (.int .i64 c2) (.int .i64 c3) (.bool c4) (.int .i64 c5) (.int .i64 c6) (.int .i64 c7))
  obtain ⟨b2_0, b2_1, b2_2, b2_3, b2_4, b2_5, b2_6, b2_7⟩ := B2.out.cells
  go_wp2_with fail
  refine (J3.out _).mono ?_
  rintro e w3 ⟨rfl, hb3⟩
  have A3 : Hid (Bx w3 (w.heap.size) (.int .i64 a0) (.int .i64 a1) (.int .i64 a2) (.int .i64 a3) (.bool a4) (.int .i64 a5) (.int .i64 a6) (.int .i64 a7)) := Lib.hid ((A2.out.alloc _).below hb3)
  have B3 : Hid (Bx w3 (w.heap.size + 1) (.int .i64 a0) (.int .i64 a1) (.int .i64 a2) (.int .i64 a3) (.bool a4) (.int .i64 a5) (.int .i64 a6) (.int .i64 a7)) := Lib.hid ((B2.out.alloc _).below hb3)
  have C3 : Hid (Bx w3 (w1.heap.size) (.int .i64 c0) (.int .i64 c1) (.int .i64 c2) (.int .i64 c3) (.bool c4) (.int .i64 c5) (.int .i64 c6) (.int .i64 c7)) := Lib.hid ((C2.out.alloc _).below hb3)
  have D3 : Hid (Bx w3 w2.heap.size (.int .i64 c0) (.int .i64 c1) (.int .i64 c2) (.int .i64 c3) (.bool c4) (.int .i64 c5) (.int .i64 c6) (.int .i64 c7)) := Lib.hid (D2.out.below hb3)
  have E3 : Hid (Below w.heap.size w w3) := Lib.hid (bnext (E2.out.alloc (by omega) _) hb3)
  have y3 : w2.heap.size < w3.heap.size := D3.out.lt
  have y3' : w.heap.size < w3.heap.size := A3.out.lt
  clear hb3 A2 B2 C2 D2 b2_0 b2_1 b2_2 b2_3 b2_4 b2_5 b2_6 b2_7
  have F3 := Lib.hid (Bx.new w3 25 (.int .i64 g0) (.int .i64 g1) (.int .i64 g2) (.int .i64 g3) (.bool g4) (.int .i64 g5) (.int .i64 g6) (.int .i64 g7))
  obtain ⟨a3_0, a3_1, a3_2, a3_3, a3_4, a3_5, a3_6, a3_7⟩ := A3.out.cells
  go_wp2_with fail
  refine (J4.out _).mono ?_
  rintro e w4 ⟨rfl, hb4⟩
  have A4 : Hid (Bx w4 (w.heap.size) (.int .i64 a0) (.int .i64 a1) (.int .i64 a2) (.int .i64 a3) (.bool a4) (.int .i64 a5) (.int .i64 a6) (.int .i64 a7)) := Lib.hid ((A3.out.alloc _).below hb4)
  have B4 : Hid (Bx w4 (w.heap.size + 1) (.int .i64 a0) (.int .i64 a1) (.int .i64 a2) (.int .i64 a3) (.bool a4) (.int .i64 a5) (.int .i64 a6) (.int .i64 a7)) := Lib.hid ((B3.out.alloc _).below hb4)
  have C4 : Hid (Bx w4 (w1.heap.size) (.int .i64 c0) (.int .i64 c1) (.int .i64 c2) (.int .i64 c3) (.bool c4) (.int .i64 c5) (.int .i64 c6) (.int .i64 c7)) := Lib.hid ((C3.out.alloc _).below hb4)
  have D4 : Hid (Bx w4 (w2.heap.size) (.int .i64 c0) (.int .i64 c1) (.int .i64 c2) (.int .i64 c3) (.bool c4) (.int .i64 c5) (.int .i64 c6) (.int .i64 c7)) := Lib.hid ((D3.out.alloc _).below hb4)
  have F4 : Hid (Bx w4 w3.heap.size (.int .i64 g0) (.int .i64 g1) (.int .i64 g2) (.int .i64 g3) (.bool g4) (.int .i64 g5) (.int .i64 g6) (.int .i64 g7)) := Lib.hid (F3.out.below hb4)
  have E4 : Hid (Below w.heap.size w w4) := Lib.hid (bnext (E3.out.alloc (by omega) _) hb4)
  have y4 : w3.heap.size < w4.heap.size := F4.out.lt
  clear hb4 A3 B3 C3 D3 F3 a3_0 a3_1 a3_2 a3_3 a3_4 a3_5 a3_6 a3_7
  have K4 := Lib.hid (Bx.new w4 30 (.int .i64 g0) (.int .i64 g1) (.int .i64 g2) (.int .i64 g3) (.bool g4) (.int .i64 g5) (.int .i64 g6) (.int .i64 g7))
  go_wp2_with fail
  have A5 := Lib.hid (A4.out.alloc (.cells #[.int .i64 g0, .int .i64 g1, .int .i64 g2, .int .i64 g3, .bool g4, .int .i64 g5, .int .i64 g6, .int .i64 g7] 30))
  have B5 := Lib.hid (B4.out.alloc (.cells #[.int .i64 g0, .int .i64 g1, .int .i64 g2, .int .i64 g3, .bool g4, .int .i64 g5, .int .i64 g6, .int .i64 g7] 30))
  have C5 := Lib.hid (C4.out.alloc (.cells #[.int .i64 g0, .int .i64 g1, .int .i64 g2, .int .i64 g3, .bool g4, .int .i64 g5, .int .i64 g6, .int .i64 g7] 30))
  have D5 := Lib.hid (D4.out.alloc (.cells #[.int .i64 g0, .int .i64 g1, .int .i64 g2, .int .i64 g3, .bool g4, .int .i64 g5, .int .i64 g6, .int .i64 g7] 30))
  have F5 := Lib.hid (F4.out.alloc (.cells #[.int .i64 g0, .int .i64 g1, .int .i64 g2, .int .i64 g3, .bool g4, .int .i64 g5, .int .i64 g6, .int .i64 g7] 30))
  have E5 := Lib.hid (E4.out.alloc (by omega : w.heap.size ≤ w4.heap.size) (.cells #[.int .i64 g0, .int .i64 g1, .int .i64 g2, .int .i64 g3, .bool g4, .int .i64 g5, .int .i64 g6, .int .i64 g7] 30))
  clear A4 B4 C4 D4 E4 F4
  generalize w4.alloc (.cells #[.int .i64 g0, .int .i64 g1, .int .i64 g2, .int .i64 g3, .bool g4, .int .i64 g5, .int .i64 g6, .int .i64 g7] 30) = W0 at *
  have z1 : w.heap.size < W0.heap.size := A5.out.lt
  have z2 : w.heap.size + 1 < W0.heap.size := B5.out.lt
  have z3 : w1.heap.size < W0.heap.size := C5.out.lt
  have z4 : w2.heap.size < W0.heap.size := D5.out.lt
  have z5 : w3.heap.size < W0.heap.size := F5.out.lt
  have z6 : w4.heap.size < W0.heap.size := K4.out.lt
  obtain ⟨a5_0, a5_1, a5_2, a5_3, a5_4, a5_5, a5_6, a5_7⟩ := A5.out.cells
  obtain ⟨b5_0, b5_1, b5_2, b5_3, b5_4, b5_5, b5_6, b5_7⟩ := B5.out.cells
  obtain ⟨c5_0, c5_1, c5_2, c5_3, c5_4, c5_5, c5_6, c5_7⟩ := C5.out.cells
  obtain ⟨d5_0, d5_1, d5_2, d5_3, d5_4, d5_5, d5_6, d5_7⟩ := D5.out.cells
  obtain ⟨f5_0, f5_1, f5_2, f5_3, f5_4, f5_5, f5_6, f5_7⟩ := F5.out.cells
  obtain ⟨k5_0, k5_1, k5_2, k5_3, k5_4, k5_5, k5_6, k5_7⟩ := K4.out.cells
  have hL : LaidAt W0 := HZ.out.below E5.out
  have HL := Lib.hid hL
  clear hL A5 B5 C5 D5 F5 K4 y1 y1' y2 y2' y3 y3' y4
  go_region_held3 (fun w' => (∀ b o, b < W0.heap.size → w'.cell? ⟨b, o, none⟩ = W0.cell? ⟨b, o, none⟩) ∧ LaidAt w' ∧ Below w.heap.size w w' ∧ W0.heap.size ≤ w'.heap.size)
    (first
      | (go_split_ands; exact keepW (by assumption) (by assumption) (by assumption) (by assumption) hb)
      | exact ⟨fun b o _ => rfl, HL.out, Below.drew E5.out, Nat.le_refl _⟩
      | go_keep)
    (first
      | (go_at_call 9; refine (num_any _ _ (by first | (with_reducible exact X1.out) | (with_reducible exact X2.out) | (with_reducible exact X3.out)) _ (by first | assumption | (go_split_ands; assumption))).mono ?_; rintro e w' ⟨rfl, hb⟩)
      | (go_at_call 15; refine (J5.out _).mono ?_; rintro e w' ⟨rfl, hb⟩)
      | (go_at_call 16; refine (J6.out _).mono ?_; rintro e w' ⟨rfl, hb⟩)
      | (go_at_call 8; refine (same_refl _ _ _ _ _ _ _ _ _).mono ?_; rintro e w' ⟨rfl, hb⟩)
      | (go_at_call 10; refine (sure_any _).mono ?_; rintro e w' ⟨rfl, hb⟩))
  go_wp2
  go_ret
  go_split_ands
  exact ⟨rfl, by assumption⟩

theorem takes_any (q p nq np : Int) (d : Bool) (l s y : Int) (w : World) (hg : LaidAt w) :
    Calls Tryd.prog 4 #[.agg #[.int .i64 q, .int .i64 p, .int .i64 nq, .int .i64 np, .bool d, .int .i64 l, .int .i64 s, .int .i64 y]] w fun e w' => e = .returned (.bool true) ∧ Below w.heap.size w w' := by
  by_cases h : okB q p nq np l s y
  · have hv := fun w => bvalid_ok q p nq np d l s y w h
    have hr := fun w => rbvalid_ok q p nq np d l s y w h
    by_cases hl : l = 0
    · subst hl
      cases d with
      | true => exact takes_of q p nq np true 0 s y 0 0 0 0 false 0 0 0 0 0 0 0 false 0 0 0 50 92 0 _ _ _ w hg (.inr rfl) (.inr rfl) (.inl ⟨rfl, rfl⟩) (fun w => take_none q p nq np true s y w h) (fun w => rtake_none q p nq np true s y w h) (fun w => del_dying q p nq np 0 s y w h) (fun w => rdel_dying q p nq np 0 s y w h) hv hr
      | false => exact takes_of q p nq np false 0 s y 0 0 0 0 false 0 0 0 _ _ _ _ _ _ _ _ 50 0 0 _ _ _ w hg (.inr rfl) (.inl ⟨rfl, rfl⟩) (.inl ⟨rfl, rfl⟩) (fun w => take_none q p nq np false s y w h) (fun w => rtake_none q p nq np false s y w h) (fun w => del_ok q p nq np 0 s y w h) (fun w => rdel_ok q p nq np 0 s y w h) hv hr
    · cases d with
      | true => exact takes_of q p nq np true l s y _ _ _ _ _ _ _ _ 0 0 0 0 false 0 0 0 0 92 0 _ _ _ w hg (.inl ⟨rfl, rfl⟩) (.inr rfl) (.inl ⟨rfl, rfl⟩) (fun w => take_ok q p nq np true l s y w h hl) (fun w => rtake_ok q p nq np true l s y w h hl) (fun w => del_dying q p nq np l s y w h) (fun w => rdel_dying q p nq np l s y w h) hv hr
      | false => exact takes_of q p nq np false l s y _ _ _ _ _ _ _ _ _ _ _ _ _ _ _ _ 0 0 0 _ _ _ w hg (.inl ⟨rfl, rfl⟩) (.inl ⟨rfl, rfl⟩) (.inl ⟨rfl, rfl⟩) (fun w => take_ok q p nq np false l s y w h hl) (fun w => rtake_ok q p nq np false l s y w h hl) (fun w => del_ok q p nq np l s y w h) (fun w => rdel_ok q p nq np l s y w h) hv hr
  · exact takes_of q p nq np d l s y 0 0 0 0 false 0 0 0 0 0 0 0 false 0 0 0 270 270 270 _ _ _ w hg (.inr rfl) (.inr rfl) (.inr rfl) (fun w => take_no q p nq np d l s y w h) (fun w => rtake_no q p nq np d l s y w h) (fun w => del_no q p nq np d l s y w h) (fun w => rdel_no q p nq np d l s y w h) (fun w => bvalid_no q p nq np d l s y w h) (fun w => rbvalid_no q p nq np d l s y w h)
end Go.Proofs.YtbkbmpnhjmcenaaDoor
