/- The walk of the law BudgetResizes: it answers true for every budget and reservation; it writes nothing that was there; of the listed variable its one cell is asked. -/
import Derived.Test.YtbkbmpnhjmcenaaDoorBBox
namespace Go.Proofs.YtbkbmpnhjmcenaaDoor
open Go.RowKit

set_option maxHeartbeats 4000000 in
set_option maxRecDepth 100000 in
theorem resizes_of (a0 a1 a2 a3 : Int) (a4 : Bool) (a5 a6 a7 : Int) (q2 p2 : Int) (c0 c1 c2 c3 : Int) (c4 : Bool) (c5 c6 c7 : Int) (m n1 n2 : Int) (x1 x2 : Value) (w : World) (hg : LaidAt w) (hx1 : ErrV x1 n1) (hx2 : ErrV x2 n2)
    (H1 : ∀ w, Calls Tryd.prog 17 #[.agg #[.int .i64 a0, .int .i64 a1, .int .i64 a2, .int .i64 a3, .bool a4, .int .i64 a5, .int .i64 a6, .int .i64 a7], .agg #[.int .i64 q2, .int .i64 p2]] w fun e w' => e = .returned (.tuple #[.agg #[.int .i64 c0, .int .i64 c1, .int .i64 c2, .int .i64 c3, .bool c4, .int .i64 c5, .int .i64 c6, .int .i64 c7], x1]) ∧ Below w.heap.size w w')
    (H2 : ∀ w, Calls Tryd.prog 18 #[.agg #[.int .i64 a0, .int .i64 a1, .int .i64 a2, .int .i64 a3, .bool a4, .int .i64 a5, .int .i64 a6, .int .i64 a7], .agg #[.int .i64 q2, .int .i64 p2]] w fun e w' => e = .returned (.tuple #[.agg #[.int .i64 c0, .int .i64 c1, .int .i64 c2, .int .i64 c3, .bool c4, .int .i64 c5, .int .i64 c6, .int .i64 c7], .int .i64 n1]) ∧ Below w.heap.size w w')
    (H3 : ∀ w, Calls Tryd.prog 19 #[.agg #[.int .i64 a0, .int .i64 a1, .int .i64 a2, .int .i64 a3, .bool a4, .int .i64 a5, .int .i64 a6, .int .i64 a7]] w fun e w' => e = .returned (.tuple #[.int .i64 m, x2]) ∧ Below w.heap.size w w')
    (H4 : ∀ w, Calls Tryd.prog 20 #[.agg #[.int .i64 a0, .int .i64 a1, .int .i64 a2, .int .i64 a3, .bool a4, .int .i64 a5, .int .i64 a6, .int .i64 a7]] w fun e w' => e = .returned (.tuple #[.int .i64 m, .int .i64 n2]) ∧ Below w.heap.size w w') :
    Calls Tryd.prog 5 #[.agg #[.int .i64 a0, .int .i64 a1, .int .i64 a2, .int .i64 a3, .bool a4, .int .i64 a5, .int .i64 a6, .int .i64 a7], .agg #[.int .i64 q2, .int .i64 p2]] w fun e w' => e = .returned (.bool true) ∧ Below w.heap.size w w' := by
  have HZ := Lib.hid hg
  clear hg
  have J1 := Lib.hid H1
  have J2 := Lib.hid H2
  have J3 := Lib.hid H3
  have J4 := Lib.hid H4
  have X1 := Lib.hid hx1
  have X2 := Lib.hid hx2
  clear H1 H2 H3 H4 hx1 hx2
  have HA0 := Lib.hid ((Bx.new w 30 (.int .i64 a0) (.int .i64 a1) (.int .i64 a2) (.int .i64 a3) (.bool a4) (.int .i64 a5) (.int .i64 a6) (.int .i64 a7)).alloc (.cells #[.int .i64 q2, .int .i64 p2] 23))
  go_enter Tryd.func5, Tryd.ntmps5
  go_wp2_with fail
  refine (J1.out _).mono ?_
  rintro e w1 ⟨rfl, hb1⟩
  have A1 : Hid (Bx w1 w.heap.size (.int .i64 a0) (.int .i64 a1) (.int .i64 a2) (.int .i64 a3) (.bool a4) (.int .i64 a5) (.int .i64 a6) (.int .i64 a7)) := Lib.hid (HA0.out.below hb1)
  have y1 : w.heap.size + 1 < w1.heap.size := by have := hb1.size; simp at this; omega
  have y1' : w.heap.size < w1.heap.size := by omega
  have r0 : w1.cell? ⟨w.heap.size + 1, 0, none⟩ = some (.int .i64 q2) := by rw [hb1.cell (p := ⟨w.heap.size + 1, 0, none⟩) (by simp)]; go_simp
  have r1 : w1.cell? ⟨w.heap.size + 1, 1, none⟩ = some (.int .i64 p2) := by rw [hb1.cell (p := ⟨w.heap.size + 1, 1, none⟩) (by simp)]; go_simp
  have E1 : Hid (Below w.heap.size w w1) := Lib.hid (bnext (((Below.refl _ _).alloc (Nat.le_refl _) _).alloc (by simp) _) hb1)
  clear hb1 HA0
  have C1 := Lib.hid (Bx.new w1 25 (.int .i64 c0) (.int .i64 c1) (.int .i64 c2) (.int .i64 c3) (.bool c4) (.int .i64 c5) (.int .i64 c6) (.int .i64 c7))
  obtain ⟨a1_0, a1_1, a1_2, a1_3, a1_4, a1_5, a1_6, a1_7⟩ := A1.out.cells
  go_wp2_with fail
  refine (J2.out _).mono ?_
  rintro e w2 ⟨rfl, hb2⟩
  have A2 : Hid (Bx w2 w.heap.size (.int .i64 a0) (.int .i64 a1) (.int .i64 a2) (.int .i64 a3) (.bool a4) (.int .i64 a5) (.int .i64 a6) (.int .i64 a7)) := Lib.hid ((A1.out.alloc _).below hb2)
  have C2 : Hid (Bx w2 w1.heap.size (.int .i64 c0) (.int .i64 c1) (.int .i64 c2) (.int .i64 c3) (.bool c4) (.int .i64 c5) (.int .i64 c6) (.int .i64 c7)) := Lib.hid (C1.out.below hb2)
  have y2 : w1.heap.size < w2.heap.size := C2.out.lt
  have y2' : w.heap.size < w2.heap.size := A2.out.lt
  have E2 : Hid (Below w.heap.size w w2) := Lib.hid (bnext (E1.out.alloc (by omega) _) hb2)
  have D2 := Lib.hid (Bx.new w2 30 (.int .i64 c0) (.int .i64 c1) (.int .i64 c2) (.int .i64 c3) (.bool c4) (.int .i64 c5) (.int .i64 c6) (.int .i64 c7))
  clear hb2 A1 C1 r0 r1 a1_0 a1_1 a1_2 a1_3 a1_4 a1_5 a1_6 a1_7
  obtain ⟨a2_0, a2_1, a2_2, a2_3, a2_4, a2_5, a2_6, a2_7⟩ := A2.out.cells
  go_wp2_with fail
  refine (J3.out _).mono ?_
  rintro e w3 ⟨rfl, hb3⟩
  have A3 : Hid (Bx w3 w.heap.size (.int .i64 a0) (.int .i64 a1) (.int .i64 a2) (.int .i64 a3) (.bool a4) (.int .i64 a5) (.int .i64 a6) (.int .i64 a7)) := Lib.hid ((A2.out.alloc _).below hb3)
  have C3 : Hid (Bx w3 w1.heap.size (.int .i64 c0) (.int .i64 c1) (.int .i64 c2) (.int .i64 c3) (.bool c4) (.int .i64 c5) (.int .i64 c6) (.int .i64 c7)) := Lib.hid ((C2.out.alloc _).below hb3)
  have D3 : Hid (Bx w3 w2.heap.size (.int .i64 c0) (.int .i64 c1) (.int .i64 c2) (.int .i64 c3) (.bool c4) (.int .i64 c5) (.int .i64 c6) (.int .i64 c7)) := Lib.hid (D2.out.below hb3)
  have E3 : Hid (Below w.heap.size w w3) := Lib.hid (bnext (E2.out.alloc (by omega) _) hb3)
  clear hb3 A2 C2 D2 a2_0 a2_1 a2_2 a2_3 a2_4 a2_5 a2_6 a2_7
  obtain ⟨a3_0, a3_1, a3_2, a3_3, a3_4, a3_5, a3_6, a3_7⟩ := A3.out.cells
  go_wp2_with fail
  refine (J4.out _).mono ?_
  rintro e w4 ⟨rfl, hb4⟩
  have C4 : Hid (Bx w4 w1.heap.size (.int .i64 c0) (.int .i64 c1) (.int .i64 c2) (.int .i64 c3) (.bool c4) (.int .i64 c5) (.int .i64 c6) (.int .i64 c7)) := Lib.hid (C3.out.below hb4)
  have D4 : Hid (Bx w4 w2.heap.size (.int .i64 c0) (.int .i64 c1) (.int .i64 c2) (.int .i64 c3) (.bool c4) (.int .i64 c5) (.int .i64 c6) (.int .i64 c7)) := Lib.hid (D3.out.below hb4)
  have E4 : Hid (Below w.heap.size w w4) := Lib.hid (bnext E3.out hb4)
  clear hb4 A3 C3 D3 a3_0 a3_1 a3_2 a3_3 a3_4 a3_5 a3_6 a3_7
  obtain ⟨c4_0, c4_1, c4_2, c4_3, c4_4, c4_5, c4_6, c4_7⟩ := C4.out.cells
  obtain ⟨d4_0, d4_1, d4_2, d4_3, d4_4, d4_5, d4_6, d4_7⟩ := D4.out.cells
  go_wp2_with fail
  refine (same_refl c0 c1 c2 c3 c4 c5 c6 c7 _).mono ?_
  rintro e w5 ⟨rfl, hb5⟩
  have E5 : Hid (Below w.heap.size w w5) := Lib.hid (bnext E4.out hb5)
  clear hb5
  go_wp2_with fail
  refine (num_any x1 n1 X1.out _ (HZ.out.below E5.out)).mono ?_
  rintro e w6 ⟨rfl, hb6⟩
  have E6 : Hid (Below w.heap.size w w6) := Lib.hid (bnext E5.out hb6)
  clear hb6
  go_wp2_with fail
  refine (num_any x2 n2 X2.out _ (HZ.out.below E6.out)).mono ?_
  rintro e w7 ⟨rfl, hb7⟩
  go_wp2_with fail
  refine (sure_any _).mono ?_
  rintro e w8 ⟨rfl, hb8⟩
  go_wp2_with fail
  go_ret
  exact ⟨rfl, bnext (bnext E6.out hb7) hb8⟩

theorem resizes_any (q p nq np : Int) (d : Bool) (l s y q2 p2 : Int) (w : World) (hg : LaidAt w) :
    Calls Tryd.prog 5 #[.agg #[.int .i64 q, .int .i64 p, .int .i64 nq, .int .i64 np, .bool d, .int .i64 l, .int .i64 s, .int .i64 y], .agg #[.int .i64 q2, .int .i64 p2]] w fun e w' => e = .returned (.bool true) ∧ Below w.heap.size w w' := by
  by_cases h : okB q p nq np l s y
  · have hres : ∃ m : Int, (∀ w, Calls Tryd.prog 19 #[.agg #[.int .i64 q, .int .i64 p, .int .i64 nq, .int .i64 np, .bool d, .int .i64 l, .int .i64 s, .int .i64 y]] w fun e w' => e = .returned (.tuple #[.int .i64 m, .nilIface]) ∧ Below w.heap.size w w') ∧ (∀ w, Calls Tryd.prog 20 #[.agg #[.int .i64 q, .int .i64 p, .int .i64 nq, .int .i64 np, .bool d, .int .i64 l, .int .i64 s, .int .i64 y]] w fun e w' => e = .returned (.tuple #[.int .i64 m, .int .i64 0]) ∧ Below w.heap.size w w') := by
      rcases h.next with ⟨rfl, rfl⟩ | ⟨g, _⟩
      · exact ⟨_, fun w => res_zero q p d l s y w h, fun w => rres_zero q p d l s y w h⟩
      · exact ⟨_, fun w => res_next q p nq np d l s y w h g, fun w => rres_next q p nq np d l s y w h g⟩
    obtain ⟨m, h3, h4⟩ := hres
    by_cases g : okR q2 p2
    · cases d with
      | true => exact resizes_of q p nq np true l s y q2 p2 0 0 0 0 false 0 0 0 m 92 0 _ _ w hg (.inr rfl) (.inl ⟨rfl, rfl⟩) (fun w => rs_dying q p nq np l s y q2 p2 w h g) (fun w => rrs_dying q p nq np l s y q2 p2 w h g) h3 h4
      | false =>
        by_cases k : q2 = q
        · subst k
          by_cases k2 : p2 = p
          · subst k2
            exact resizes_of q2 p2 nq np false l s y q2 p2 _ _ _ _ _ _ _ _ m 0 0 _ _ w hg (.inl ⟨rfl, rfl⟩) (.inl ⟨rfl, rfl⟩) (fun w => rs_same q2 p2 nq np l s y w h g) (fun w => rrs_same q2 p2 nq np l s y w h g) h3 h4
          · exact resizes_of q2 p nq np false l s y q2 p2 _ _ _ _ _ _ _ _ m 0 0 _ _ w hg (.inl ⟨rfl, rfl⟩) (.inl ⟨rfl, rfl⟩) (fun w => rs_new2 q2 p nq np l s y p2 w h g k2) (fun w => rrs_new2 q2 p nq np l s y p2 w h g k2) h3 h4
        · exact resizes_of q p nq np false l s y q2 p2 _ _ _ _ _ _ _ _ m 0 0 _ _ w hg (.inl ⟨rfl, rfl⟩) (.inl ⟨rfl, rfl⟩) (fun w => rs_new1 q p nq np l s y q2 p2 w h g k) (fun w => rrs_new1 q p nq np l s y q2 p2 w h g k) h3 h4
    · exact resizes_of q p nq np d l s y q2 p2 0 0 0 0 false 0 0 0 m 2 0 _ _ w hg (.inr rfl) (.inl ⟨rfl, rfl⟩) (fun w => rs_range q p nq np d l s y q2 p2 w h g) (fun w => rrs_range q p nq np d l s y q2 p2 w h g) h3 h4
  · exact resizes_of q p nq np d l s y q2 p2 0 0 0 0 false 0 0 0 0 270 270 _ _ w hg (.inr rfl) (.inr rfl) (fun w => rs_no q p nq np d l s y q2 p2 w h) (fun w => rrs_no q p nq np d l s y q2 p2 w h) (fun w => res_no q p nq np d l s y w h) (fun w => rres_no q p nq np d l s y w h)
end Go.Proofs.YtbkbmpnhjmcenaaDoor
