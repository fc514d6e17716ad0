/- The document's package titheref07: Valid told whole; New, Take, Delete, Resize, Held, Reserved; no condition but those that a row names. -/
import Derived.Test.YtbkbmpnhjmcenaaDoorBRefV
import Derived.Test.YtbkbmpnhjmcenaaDoorBSame
import Derived.Test.YtbkbmpnhjmcenaaDoorBOps
namespace Go.Proofs.YtbkbmpnhjmcenaaDoor
open Go.RowKit

theorem ret_int {a b : Int} (h : a = b) : Ending.returned (.int .i64 a) = .returned (.int .i64 b) := by rw [h]
theorem rbvalid_ok (q p nq np : Int) (d : Bool) (l s y : Int) (w : World) (h : okB q p nq np l s y) :
    Calls Tryd.prog 16 #[.agg #[.int .i64 q, .int .i64 p, .int .i64 nq, .int .i64 np, .bool d, .int .i64 l, .int .i64 s, .int .i64 y]] w fun e w' => e = .returned (.int .i64 0) ∧ Below w.heap.size w w' := by
  obtain ⟨h1, h2, h3, h4, h5, h6, h7⟩ := h
  rcases h2 with ⟨rfl, rfl⟩ | ⟨g, k⟩
  · exact rv_zero_ok q p d l s y w h1 h3 h4 h5 h6 h7
  · by_cases e : nq = q
    · subst e
      exact rv_okB_ok nq p np d l s y w g (fun k1 => k ⟨rfl, k1⟩) h1 h3 h4 h5 h6 h7
    · exact rv_okA_ok q p nq np d l s y w g e h1 h3 h4 h5 h6 h7
theorem rbvalid_no (q p nq np : Int) (d : Bool) (l s y : Int) (w : World) (h : ¬ okB q p nq np l s y) :
    Calls Tryd.prog 16 #[.agg #[.int .i64 q, .int .i64 p, .int .i64 nq, .int .i64 np, .bool d, .int .i64 l, .int .i64 s, .int .i64 y]] w fun e w' => e = .returned (.int .i64 270) ∧ Below w.heap.size w w' := by
  by_cases h2 : pendR nq np q p
  · rcases id h2 with ⟨rfl, rfl⟩ | ⟨g, k⟩
    · by_cases h1 : okR q p
      · by_cases g1 : 0 ≤ l
        · by_cases g2 : l ≤ q
          · by_cases g3 : 0 ≤ s
            · by_cases g4 : s ≤ 1073741824
              · by_cases g5 : y = s + p
                · exact absurd ⟨h1, h2, g1, g2, g3, g4, g5⟩ h
                · exact rv_zero_y q p d l s y w h1 g1 g2 g3 g4 g5
              · exact rv_zero_s1 q p d l s y w h1 g1 g2 g3 (by omega)
            · exact rv_zero_s0 q p d l s y w h1 g1 g2 (by omega)
          · exact rv_zero_lq q p d l s y w h1 g1 (by omega)
        · exact rv_zero_l0 q p d l s y w h1 (by omega)
      · exact rv_zero_now q p d l s y w h1
    · by_cases e : nq = q
      · subst e
        have k' : ¬ np = p := fun k1 => k ⟨rfl, k1⟩
        by_cases h1 : okR nq p
        · by_cases g1 : 0 ≤ l
          · by_cases g2 : l ≤ nq
            · by_cases g3 : 0 ≤ s
              · by_cases g4 : s ≤ 1073741824
                · by_cases g5 : y = s + p
                  · exact absurd ⟨h1, h2, g1, g2, g3, g4, g5⟩ h
                  · exact rv_okB_y nq p np d l s y w g k' h1 g1 g2 g3 g4 g5
                · exact rv_okB_s1 nq p np d l s y w g k' h1 g1 g2 g3 (by omega)
              · exact rv_okB_s0 nq p np d l s y w g k' h1 g1 g2 (by omega)
            · exact rv_okB_lq nq p np d l s y w g k' h1 g1 (by omega)
          · exact rv_okB_l0 nq p np d l s y w g k' h1 (by omega)
        · exact rv_okB_now nq p np d l s y w g k' h1
      · by_cases h1 : okR q p
        · by_cases g1 : 0 ≤ l
          · by_cases g2 : l ≤ q
            · by_cases g3 : 0 ≤ s
              · by_cases g4 : s ≤ 1073741824
                · by_cases g5 : y = s + p
                  · exact absurd ⟨h1, h2, g1, g2, g3, g4, g5⟩ h
                  · exact rv_okA_y q p nq np d l s y w g e h1 g1 g2 g3 g4 g5
                · exact rv_okA_s1 q p nq np d l s y w g e h1 g1 g2 g3 (by omega)
              · exact rv_okA_s0 q p nq np d l s y w g e h1 g1 g2 (by omega)
            · exact rv_okA_lq q p nq np d l s y w g e h1 g1 (by omega)
          · exact rv_okA_l0 q p nq np d l s y w g e h1 (by omega)
        · exact rv_okA_now q p nq np d l s y w g e h1
  · by_cases g : okR nq np
    · by_cases e : nq = q ∧ np = p
      · obtain ⟨rfl, rfl⟩ := e
        exact rv_same nq np d l s y w g g
      · exact absurd (.inr ⟨g, e⟩) h2
    · have k : ¬ (nq = 0 ∧ np = 0) := fun e => h2 (.inl e)
      by_cases e : nq = 0
      · subst e
        have k' : ¬ np = 0 := fun k1 => k ⟨rfl, k1⟩
        by_cases h1 : okR q p
        · exact rv_badB q p np d l s y w g k' h1
        · exact rv_badB_now q p np d l s y w g k' h1
      · by_cases h1 : okR q p
        · exact rv_badA q p nq np d l s y w g e h1
        · exact rv_badA_now q p nq np d l s y w g e h1
set_option maxHeartbeats 1000000 in
theorem rnew_neg (q p at0 : Int) (w : World) (h0 : at0 < 0) :
    Calls Tryd.prog 7 #[.agg #[.int .i64 q, .int .i64 p], .int .i64 at0] w fun e w' => e = .returned (.tuple #[.agg #[.int .i64 0, .int .i64 0, .int .i64 0, .int .i64 0, .bool false, .int .i64 0, .int .i64 0, .int .i64 0], .int .i64 1]) ∧ Below w.heap.size w w' := by
  go_enter Tryd.func7, Tryd.ntmps7
  go_wp2
  exact bodyPost_ret (v := .tuple #[.agg #[.int .i64 0, .int .i64 0, .int .i64 0, .int .i64 0, .bool false, .int .i64 0, .int .i64 0, .int .i64 0], .int .i64 1]) (by simp [results, Tryd.results7, go_sem]) rfl ⟨rfl, ((Below.refl _ _).alloc (Nat.le_refl _) _).alloc (by simp) _⟩

set_option maxHeartbeats 1000000 in
theorem rnew_no (q p at0 : Int) (w : World) (h0 : 0 ≤ at0) (h : ¬ okR q p) :
    Calls Tryd.prog 7 #[.agg #[.int .i64 q, .int .i64 p], .int .i64 at0] w fun e w' => e = .returned (.tuple #[.agg #[.int .i64 0, .int .i64 0, .int .i64 0, .int .i64 0, .bool false, .int .i64 0, .int .i64 0, .int .i64 0], .int .i64 2]) ∧ Below w.heap.size w w' := by
  have HV := Lib.hid h
  clear h
  go_enter Tryd.func7, Tryd.ntmps7
  go_wp2_with fail
  refine (rvalid_no q p _ HV.out).mono ?_
  rintro e w1 ⟨rfl, hb1⟩
  obtain ⟨hc1, hf1⟩ := bcell hb1
  have hz1 : w.heap.size + 1 < w1.heap.size := by have := hb1.size; simp at this; omega
  have hy1 : w.heap.size < w1.heap.size := by omega
  go_wp2_with fail
  exact bodyPost_ret (v := .tuple #[.agg #[.int .i64 0, .int .i64 0, .int .i64 0, .int .i64 0, .bool false, .int .i64 0, .int .i64 0, .int .i64 0], .int .i64 2]) (by simp [results, Tryd.results7, go_sem, hc1]) rfl ⟨rfl, below_set8 (bnext (((Below.refl _ _).alloc (Nat.le_refl _) _).alloc (by simp) _) hb1) (by omega) _ _ _ _ _ _ _ _⟩

set_option maxHeartbeats 1000000 in
theorem rnew_late (q p at0 : Int) (w : World) (h0 : 1073741824 < at0) (h : okR q p) :
    Calls Tryd.prog 7 #[.agg #[.int .i64 q, .int .i64 p], .int .i64 at0] w fun e w' => e = .returned (.tuple #[.agg #[.int .i64 0, .int .i64 0, .int .i64 0, .int .i64 0, .bool false, .int .i64 0, .int .i64 0, .int .i64 0], .int .i64 60]) ∧ Below w.heap.size w w' := by
  have hn : 0 ≤ at0 := by omega
  have HV := Lib.hid h
  clear h
  go_enter Tryd.func7, Tryd.ntmps7
  go_wp2_with fail
  refine (rvalid_ok q p _ HV.out).mono ?_
  rintro e w1 ⟨rfl, hb1⟩
  obtain ⟨hc1, hf1⟩ := bcell hb1
  have hz1 : w.heap.size + 1 < w1.heap.size := by have := hb1.size; simp at this; omega
  have hy1 : w.heap.size < w1.heap.size := by omega
  go_wp2_with fail
  exact bodyPost_ret (v := .tuple #[.agg #[.int .i64 0, .int .i64 0, .int .i64 0, .int .i64 0, .bool false, .int .i64 0, .int .i64 0, .int .i64 0], .int .i64 60]) (by simp [results, Tryd.results7, go_sem, hc1]) rfl ⟨rfl, below_set8 (bnext (((Below.refl _ _).alloc (Nat.le_refl _) _).alloc (by simp) _) hb1) (by omega) _ _ _ _ _ _ _ _⟩

set_option maxHeartbeats 1000000 in
theorem rnew_ok (q p at0 : Int) (w : World) (h : okR q p) (h0 : 0 ≤ at0) (h1 : at0 ≤ 1073741824) :
    Calls Tryd.prog 7 #[.agg #[.int .i64 q, .int .i64 p], .int .i64 at0] w fun e w' => e = .returned (.tuple #[.agg #[.int .i64 q, .int .i64 p, .int .i64 0, .int .i64 0, .bool false, .int .i64 q, .int .i64 at0, .int .i64 (at0 + p)], .int .i64 0]) ∧ Below w.heap.size w w' := by
  obtain ⟨k1, k2, k3⟩ := id h
  have HV := Lib.hid h
  clear h
  go_enter Tryd.func7, Tryd.ntmps7
  go_wp2_with fail
  refine (rvalid_ok q p _ HV.out).mono ?_
  rintro e w1 ⟨rfl, hb1⟩
  obtain ⟨hc1, hf1⟩ := bcell hb1
  have hz1 : w.heap.size + 1 < w1.heap.size := by have := hb1.size; simp at this; omega
  have hy1 : w.heap.size < w1.heap.size := by omega
  go_wp2_with fail
  exact bodyPost_ret (v := .tuple #[.agg #[.int .i64 q, .int .i64 p, .int .i64 0, .int .i64 0, .bool false, .int .i64 q, .int .i64 at0, .int .i64 (at0 + p)], .int .i64 0]) (by simp [results, Tryd.results7, go_sem, hc1]) rfl ⟨rfl, below_set8 (bnext (((Below.refl _ _).alloc (Nat.le_refl _) _).alloc (by simp) _) hb1) (by omega) _ _ _ _ _ _ _ _⟩

set_option maxHeartbeats 1000000 in
theorem rtake_no (q p nq np : Int) (d : Bool) (l s y : Int) (w : World) (h : ¬ okB q p nq np l s y) :
    Calls Tryd.prog 12 #[.agg #[.int .i64 q, .int .i64 p, .int .i64 nq, .int .i64 np, .bool d, .int .i64 l, .int .i64 s, .int .i64 y]] w fun e w' => e = .returned (.tuple #[.agg #[.int .i64 0, .int .i64 0, .int .i64 0, .int .i64 0, .bool false, .int .i64 0, .int .i64 0, .int .i64 0], .int .i64 270]) ∧ Below w.heap.size w w' := by
  have HV := Lib.hid h
  clear h
  go_enter Tryd.func12, Tryd.ntmps12
  go_wp2_with fail
  refine (rbvalid_no q p nq np _ l s y _ HV.out).mono ?_
  rintro e w1 ⟨rfl, hb1⟩
  obtain ⟨hc1, hf1⟩ := bcell hb1
  have hz1 : w.heap.size + 1 < w1.heap.size := by have := hb1.size; simp at this; omega
  have hy1 : w.heap.size < w1.heap.size := by omega
  go_wp2_with fail
  exact bodyPost_ret (v := .tuple #[.agg #[.int .i64 0, .int .i64 0, .int .i64 0, .int .i64 0, .bool false, .int .i64 0, .int .i64 0, .int .i64 0], .int .i64 270]) (by simp [results, Tryd.results12, go_sem, hc1]) rfl ⟨rfl, below_set8 (bnext (((Below.refl _ _).alloc (Nat.le_refl _) _).alloc (by simp) _) hb1) (by omega) _ _ _ _ _ _ _ _⟩

set_option maxHeartbeats 1000000 in
theorem rdel_no (q p nq np : Int) (d : Bool) (l s y : Int) (w : World) (h : ¬ okB q p nq np l s y) :
    Calls Tryd.prog 14 #[.agg #[.int .i64 q, .int .i64 p, .int .i64 nq, .int .i64 np, .bool d, .int .i64 l, .int .i64 s, .int .i64 y]] w fun e w' => e = .returned (.tuple #[.agg #[.int .i64 0, .int .i64 0, .int .i64 0, .int .i64 0, .bool false, .int .i64 0, .int .i64 0, .int .i64 0], .int .i64 270]) ∧ Below w.heap.size w w' := by
  have HV := Lib.hid h
  clear h
  go_enter Tryd.func14, Tryd.ntmps14
  go_wp2_with fail
  refine (rbvalid_no q p nq np _ l s y _ HV.out).mono ?_
  rintro e w1 ⟨rfl, hb1⟩
  obtain ⟨hc1, hf1⟩ := bcell hb1
  have hz1 : w.heap.size + 1 < w1.heap.size := by have := hb1.size; simp at this; omega
  have hy1 : w.heap.size < w1.heap.size := by omega
  go_wp2_with fail
  exact bodyPost_ret (v := .tuple #[.agg #[.int .i64 0, .int .i64 0, .int .i64 0, .int .i64 0, .bool false, .int .i64 0, .int .i64 0, .int .i64 0], .int .i64 270]) (by simp [results, Tryd.results14, go_sem, hc1]) rfl ⟨rfl, below_set8 (bnext (((Below.refl _ _).alloc (Nat.le_refl _) _).alloc (by simp) _) hb1) (by omega) _ _ _ _ _ _ _ _⟩

set_option maxHeartbeats 1000000 in
theorem rtake_none (q p nq np : Int) (d : Bool) (s y : Int) (w : World) (h : okB q p nq np 0 s y) :
    Calls Tryd.prog 12 #[.agg #[.int .i64 q, .int .i64 p, .int .i64 nq, .int .i64 np, .bool d, .int .i64 0, .int .i64 s, .int .i64 y]] w fun e w' => e = .returned (.tuple #[.agg #[.int .i64 0, .int .i64 0, .int .i64 0, .int .i64 0, .bool false, .int .i64 0, .int .i64 0, .int .i64 0], .int .i64 50]) ∧ Below w.heap.size w w' := by
  have HV := Lib.hid h
  clear h
  go_enter Tryd.func12, Tryd.ntmps12
  go_wp2_with fail
  refine (rbvalid_ok q p nq np _ 0 s y _ HV.out).mono ?_
  rintro e w1 ⟨rfl, hb1⟩
  obtain ⟨hc1, hf1⟩ := bcell hb1
  have hz1 : w.heap.size + 1 < w1.heap.size := by have := hb1.size; simp at this; omega
  have hy1 : w.heap.size < w1.heap.size := by omega
  go_wp2_with fail
  exact bodyPost_ret (v := .tuple #[.agg #[.int .i64 0, .int .i64 0, .int .i64 0, .int .i64 0, .bool false, .int .i64 0, .int .i64 0, .int .i64 0], .int .i64 50]) (by simp [results, Tryd.results12, go_sem, hc1]) rfl ⟨rfl, below_set8 (bnext (((Below.refl _ _).alloc (Nat.le_refl _) _).alloc (by simp) _) hb1) (by omega) _ _ _ _ _ _ _ _⟩

set_option maxHeartbeats 1000000 in
theorem rtake_ok (q p nq np : Int) (d : Bool) (l s y : Int) (w : World) (h : okB q p nq np l s y) (hl : ¬ l = 0) :
    Calls Tryd.prog 12 #[.agg #[.int .i64 q, .int .i64 p, .int .i64 nq, .int .i64 np, .bool d, .int .i64 l, .int .i64 s, .int .i64 y]] w fun e w' => e = .returned (.tuple #[.agg #[.int .i64 q, .int .i64 p, .int .i64 nq, .int .i64 np, .bool d, .int .i64 (l - 1), .int .i64 s, .int .i64 y], .int .i64 0]) ∧ Below w.heap.size w w' := by
  have g1 : 0 < l := by have := h.l0; omega
  have g2 : l ≤ 1048576 := by have := h.lq; have := h.now.2; omega
  have g3 : (l == 0) = false := by simpa using hl
  have HV := Lib.hid h
  clear h
  clear hl
  go_enter Tryd.func12, Tryd.ntmps12
  go_wp2_with fail
  refine (rbvalid_ok q p nq np _ l s y _ HV.out).mono ?_
  rintro e w1 ⟨rfl, hb1⟩
  obtain ⟨hc1, hf1⟩ := bcell hb1
  have hz1 : w.heap.size + 1 < w1.heap.size := by have := hb1.size; simp at this; omega
  have hy1 : w.heap.size < w1.heap.size := by omega
  have r5 : (w1.cell? ⟨w.heap.size, 5, none⟩).isSome = true := by rw [hc1 w.heap.size 5 (by simp; omega)]; go_simp
  go_wp2_with fail
  exact bodyPost_ret (v := .tuple #[.agg #[.int .i64 q, .int .i64 p, .int .i64 nq, .int .i64 np, .bool d, .int .i64 (l - 1), .int .i64 s, .int .i64 y], .int .i64 0]) (by simp [results, Tryd.results12, go_sem, hc1]) rfl ⟨rfl, below_set8 ((bnext (((Below.refl _ _).alloc (Nat.le_refl _) _).alloc (by simp) _) hb1).setCell (by simp) _) (by omega) _ _ _ _ _ _ _ _⟩

set_option maxHeartbeats 1000000 in
theorem rdel_dying (q p nq np : Int) (l s y : Int) (w : World) (h : okB q p nq np l s y) :
    Calls Tryd.prog 14 #[.agg #[.int .i64 q, .int .i64 p, .int .i64 nq, .int .i64 np, .bool true, .int .i64 l, .int .i64 s, .int .i64 y]] w fun e w' => e = .returned (.tuple #[.agg #[.int .i64 0, .int .i64 0, .int .i64 0, .int .i64 0, .bool false, .int .i64 0, .int .i64 0, .int .i64 0], .int .i64 92]) ∧ Below w.heap.size w w' := by
  have HV := Lib.hid h
  clear h
  go_enter Tryd.func14, Tryd.ntmps14
  go_wp2_with fail
  refine (rbvalid_ok q p nq np _ l s y _ HV.out).mono ?_
  rintro e w1 ⟨rfl, hb1⟩
  obtain ⟨hc1, hf1⟩ := bcell hb1
  have hz1 : w.heap.size + 1 < w1.heap.size := by have := hb1.size; simp at this; omega
  have hy1 : w.heap.size < w1.heap.size := by omega
  go_wp2_with fail
  exact bodyPost_ret (v := .tuple #[.agg #[.int .i64 0, .int .i64 0, .int .i64 0, .int .i64 0, .bool false, .int .i64 0, .int .i64 0, .int .i64 0], .int .i64 92]) (by simp [results, Tryd.results14, go_sem, hc1]) rfl ⟨rfl, below_set8 (bnext (((Below.refl _ _).alloc (Nat.le_refl _) _).alloc (by simp) _) hb1) (by omega) _ _ _ _ _ _ _ _⟩

set_option maxHeartbeats 1000000 in
theorem rdel_ok (q p nq np : Int) (l s y : Int) (w : World) (h : okB q p nq np l s y) :
    Calls Tryd.prog 14 #[.agg #[.int .i64 q, .int .i64 p, .int .i64 nq, .int .i64 np, .bool false, .int .i64 l, .int .i64 s, .int .i64 y]] w fun e w' => e = .returned (.tuple #[.agg #[.int .i64 q, .int .i64 p, .int .i64 nq, .int .i64 np, .bool true, .int .i64 l, .int .i64 s, .int .i64 y], .int .i64 0]) ∧ Below w.heap.size w w' := by
  have HV := Lib.hid h
  clear h
  go_enter Tryd.func14, Tryd.ntmps14
  go_wp2_with fail
  refine (rbvalid_ok q p nq np _ l s y _ HV.out).mono ?_
  rintro e w1 ⟨rfl, hb1⟩
  obtain ⟨hc1, hf1⟩ := bcell hb1
  have hz1 : w.heap.size + 1 < w1.heap.size := by have := hb1.size; simp at this; omega
  have hy1 : w.heap.size < w1.heap.size := by omega
  have r4 : (w1.cell? ⟨w.heap.size, 4, none⟩).isSome = true := by rw [hc1 w.heap.size 4 (by simp; omega)]; go_simp
  go_wp2_with fail
  exact bodyPost_ret (v := .tuple #[.agg #[.int .i64 q, .int .i64 p, .int .i64 nq, .int .i64 np, .bool true, .int .i64 l, .int .i64 s, .int .i64 y], .int .i64 0]) (by simp [results, Tryd.results14, go_sem, hc1]) rfl ⟨rfl, below_set8 ((bnext (((Below.refl _ _).alloc (Nat.le_refl _) _).alloc (by simp) _) hb1).setCell (by simp) _) (by omega) _ _ _ _ _ _ _ _⟩

set_option maxHeartbeats 1000000 in
theorem rrs_no (q p nq np : Int) (d : Bool) (l s y q2 p2 : Int) (w : World) (h : ¬ okB q p nq np l s y) :
    Calls Tryd.prog 18 #[.agg #[.int .i64 q, .int .i64 p, .int .i64 nq, .int .i64 np, .bool d, .int .i64 l, .int .i64 s, .int .i64 y], .agg #[.int .i64 q2, .int .i64 p2]] w fun e w' => e = .returned (.tuple #[.agg #[.int .i64 0, .int .i64 0, .int .i64 0, .int .i64 0, .bool false, .int .i64 0, .int .i64 0, .int .i64 0], .int .i64 270]) ∧ Below w.heap.size w w' := by
  have HV := Lib.hid h
  clear h
  go_enter Tryd.func18, Tryd.ntmps18
  go_wp2_with fail
  refine (rbvalid_no q p nq np _ l s y _ HV.out).mono ?_
  rintro e w1 ⟨rfl, hb1⟩
  obtain ⟨hc1, hf1⟩ := bcell hb1
  have hz1 : w.heap.size + 1 + 1 < w1.heap.size := by have := hb1.size; simp at this; omega
  have hy1 : w.heap.size + 1 < w1.heap.size := by omega
  have hx1 : w.heap.size < w1.heap.size := by omega
  go_wp2_with fail
  exact bodyPost_ret (v := .tuple #[.agg #[.int .i64 0, .int .i64 0, .int .i64 0, .int .i64 0, .bool false, .int .i64 0, .int .i64 0, .int .i64 0], .int .i64 270]) (by simp [results, Tryd.results18, go_sem, hc1]) rfl ⟨rfl, below_set8 (bnext ((((Below.refl _ _).alloc (Nat.le_refl _) _).alloc (by simp) _).alloc (by simp; omega) _) hb1) (by omega) _ _ _ _ _ _ _ _⟩

set_option maxHeartbeats 1000000 in
theorem rrs_range (q p nq np : Int) (d : Bool) (l s y q2 p2 : Int) (w : World) (h : okB q p nq np l s y) (g : ¬ okR q2 p2) :
    Calls Tryd.prog 18 #[.agg #[.int .i64 q, .int .i64 p, .int .i64 nq, .int .i64 np, .bool d, .int .i64 l, .int .i64 s, .int .i64 y], .agg #[.int .i64 q2, .int .i64 p2]] w fun e w' => e = .returned (.tuple #[.agg #[.int .i64 0, .int .i64 0, .int .i64 0, .int .i64 0, .bool false, .int .i64 0, .int .i64 0, .int .i64 0], .int .i64 2]) ∧ Below w.heap.size w w' := by
  have HV := Lib.hid h
  have HR := Lib.hid g
  clear h g
  go_enter Tryd.func18, Tryd.ntmps18
  go_wp2_with fail
  refine (rbvalid_ok q p nq np _ l s y _ HV.out).mono ?_
  rintro e w1 ⟨rfl, hb1⟩
  obtain ⟨hc1, hf1⟩ := bcell hb1
  have hz1 : w.heap.size + 1 + 1 < w1.heap.size := by have := hb1.size; simp at this; omega
  have hy1 : w.heap.size + 1 < w1.heap.size := by omega
  have hx1 : w.heap.size < w1.heap.size := by omega
  go_wp2_with fail
  refine (rvalid_no q2 p2 _ HR.out).mono ?_
  rintro e w2 ⟨rfl, hb2⟩
  obtain ⟨hc2, hf2⟩ := bcell hb2
  have hz2 : w.heap.size + 1 + 1 < w2.heap.size := by have := hb2.size; omega
  have hy2 : w.heap.size + 1 < w2.heap.size := by omega
  have hx2 : w.heap.size < w2.heap.size := by omega
  go_wp2_with fail
  exact bodyPost_ret (v := .tuple #[.agg #[.int .i64 0, .int .i64 0, .int .i64 0, .int .i64 0, .bool false, .int .i64 0, .int .i64 0, .int .i64 0], .int .i64 2]) (by simp [results, Tryd.results18, go_sem, hc1, hc2, hz1]) rfl ⟨rfl, below_set8 (bnext (bnext ((((Below.refl _ _).alloc (Nat.le_refl _) _).alloc (by simp) _).alloc (by simp; omega) _) hb1) hb2) (by omega) _ _ _ _ _ _ _ _⟩

set_option maxHeartbeats 1000000 in
theorem rrs_dying (q p nq np : Int) (l s y q2 p2 : Int) (w : World) (h : okB q p nq np l s y) (g : okR q2 p2) :
    Calls Tryd.prog 18 #[.agg #[.int .i64 q, .int .i64 p, .int .i64 nq, .int .i64 np, .bool true, .int .i64 l, .int .i64 s, .int .i64 y], .agg #[.int .i64 q2, .int .i64 p2]] w fun e w' => e = .returned (.tuple #[.agg #[.int .i64 0, .int .i64 0, .int .i64 0, .int .i64 0, .bool false, .int .i64 0, .int .i64 0, .int .i64 0], .int .i64 92]) ∧ Below w.heap.size w w' := by
  have HV := Lib.hid h
  have HR := Lib.hid g
  clear h g
  go_enter Tryd.func18, Tryd.ntmps18
  go_wp2_with fail
  refine (rbvalid_ok q p nq np _ l s y _ HV.out).mono ?_
  rintro e w1 ⟨rfl, hb1⟩
  obtain ⟨hc1, hf1⟩ := bcell hb1
  have hz1 : w.heap.size + 1 + 1 < w1.heap.size := by have := hb1.size; simp at this; omega
  have hy1 : w.heap.size + 1 < w1.heap.size := by omega
  have hx1 : w.heap.size < w1.heap.size := by omega
  go_wp2_with fail
  refine (rvalid_ok q2 p2 _ HR.out).mono ?_
  rintro e w2 ⟨rfl, hb2⟩
  obtain ⟨hc2, hf2⟩ := bcell hb2
  have hz2 : w.heap.size + 1 + 1 < w2.heap.size := by have := hb2.size; omega
  have hy2 : w.heap.size + 1 < w2.heap.size := by omega
  have hx2 : w.heap.size < w2.heap.size := by omega
  go_wp2_with fail
  exact bodyPost_ret (v := .tuple #[.agg #[.int .i64 0, .int .i64 0, .int .i64 0, .int .i64 0, .bool false, .int .i64 0, .int .i64 0, .int .i64 0], .int .i64 92]) (by simp [results, Tryd.results18, go_sem, hc1, hc2, hz1]) rfl ⟨rfl, below_set8 (bnext (bnext ((((Below.refl _ _).alloc (Nat.le_refl _) _).alloc (by simp) _).alloc (by simp; omega) _) hb1) hb2) (by omega) _ _ _ _ _ _ _ _⟩

set_option maxHeartbeats 1000000 in
theorem rrs_same (q p nq np : Int) (l s y : Int) (w : World) (h : okB q p nq np l s y) (g : okR q p) :
    Calls Tryd.prog 18 #[.agg #[.int .i64 q, .int .i64 p, .int .i64 nq, .int .i64 np, .bool false, .int .i64 l, .int .i64 s, .int .i64 y], .agg #[.int .i64 q, .int .i64 p]] w fun e w' => e = .returned (.tuple #[.agg #[.int .i64 q, .int .i64 p, .int .i64 0, .int .i64 0, .bool false, .int .i64 l, .int .i64 s, .int .i64 y], .int .i64 0]) ∧ Below w.heap.size w w' := by
  have HV := Lib.hid h
  have HR := Lib.hid g
  clear h g
  go_enter Tryd.func18, Tryd.ntmps18
  go_wp2_with fail
  refine (rbvalid_ok q p nq np _ l s y _ HV.out).mono ?_
  rintro e w1 ⟨rfl, hb1⟩
  obtain ⟨hc1, hf1⟩ := bcell hb1
  have hz1 : w.heap.size + 1 + 1 < w1.heap.size := by have := hb1.size; simp at this; omega
  have hy1 : w.heap.size + 1 < w1.heap.size := by omega
  have hx1 : w.heap.size < w1.heap.size := by omega
  go_wp2_with fail
  refine (rvalid_ok q p _ HR.out).mono ?_
  rintro e w2 ⟨rfl, hb2⟩
  obtain ⟨hc2, hf2⟩ := bcell hb2
  have hz2 : w.heap.size + 1 + 1 < w2.heap.size := by have := hb2.size; omega
  have hy2 : w.heap.size + 1 < w2.heap.size := by omega
  have hx2 : w.heap.size < w2.heap.size := by omega
  have c0 : w2.cell? ⟨w.heap.size, 0, none⟩ = some (.int .i64 q) := by rw [hc2 (w.heap.size) 0 (by omega), hc1 (w.heap.size) 0 (by simp <;> omega)]; go_simp
  have c1 : w2.cell? ⟨w.heap.size, 1, none⟩ = some (.int .i64 p) := by rw [hc2 (w.heap.size) 1 (by omega), hc1 (w.heap.size) 1 (by simp <;> omega)]; go_simp
  have c2 : w2.cell? ⟨w.heap.size, 2, none⟩ = some (.int .i64 nq) := by rw [hc2 (w.heap.size) 2 (by omega), hc1 (w.heap.size) 2 (by simp <;> omega)]; go_simp
  have c3 : w2.cell? ⟨w.heap.size, 3, none⟩ = some (.int .i64 np) := by rw [hc2 (w.heap.size) 3 (by omega), hc1 (w.heap.size) 3 (by simp <;> omega)]; go_simp
  have c4 : w2.cell? ⟨w.heap.size, 4, none⟩ = some (.bool false) := by rw [hc2 (w.heap.size) 4 (by omega), hc1 (w.heap.size) 4 (by simp <;> omega)]; go_simp
  have c5 : w2.cell? ⟨w.heap.size, 5, none⟩ = some (.int .i64 l) := by rw [hc2 (w.heap.size) 5 (by omega), hc1 (w.heap.size) 5 (by simp <;> omega)]; go_simp
  have c6 : w2.cell? ⟨w.heap.size, 6, none⟩ = some (.int .i64 s) := by rw [hc2 (w.heap.size) 6 (by omega), hc1 (w.heap.size) 6 (by simp <;> omega)]; go_simp
  have c7 : w2.cell? ⟨w.heap.size, 7, none⟩ = some (.int .i64 y) := by rw [hc2 (w.heap.size) 7 (by omega), hc1 (w.heap.size) 7 (by simp <;> omega)]; go_simp
  have d0 : w2.cell? ⟨w.heap.size + 1, 0, none⟩ = some (.int .i64 q) := by rw [hc2 (w.heap.size + 1) 0 (by omega), hc1 (w.heap.size + 1) 0 (by simp <;> omega)]; go_simp
  have d1 : w2.cell? ⟨w.heap.size + 1, 1, none⟩ = some (.int .i64 p) := by rw [hc2 (w.heap.size + 1) 1 (by omega), hc1 (w.heap.size + 1) 1 (by simp <;> omega)]; go_simp
  have z0 : w2.cell? ⟨w.heap.size + 1 + 1, 0, none⟩ = some (.int .i64 0) := by rw [hc2 (w.heap.size + 1 + 1) 0 (by omega), hc1 (w.heap.size + 1 + 1) 0 (by simp <;> omega)]; go_simp
  have z1 : w2.cell? ⟨w.heap.size + 1 + 1, 1, none⟩ = some (.int .i64 0) := by rw [hc2 (w.heap.size + 1 + 1) 1 (by omega), hc1 (w.heap.size + 1 + 1) 1 (by simp <;> omega)]; go_simp
  have z2 : w2.cell? ⟨w.heap.size + 1 + 1, 2, none⟩ = some (.int .i64 0) := by rw [hc2 (w.heap.size + 1 + 1) 2 (by omega), hc1 (w.heap.size + 1 + 1) 2 (by simp <;> omega)]; go_simp
  have z3 : w2.cell? ⟨w.heap.size + 1 + 1, 3, none⟩ = some (.int .i64 0) := by rw [hc2 (w.heap.size + 1 + 1) 3 (by omega), hc1 (w.heap.size + 1 + 1) 3 (by simp <;> omega)]; go_simp
  have z4 : w2.cell? ⟨w.heap.size + 1 + 1, 4, none⟩ = some (.bool false) := by rw [hc2 (w.heap.size + 1 + 1) 4 (by omega), hc1 (w.heap.size + 1 + 1) 4 (by simp <;> omega)]; go_simp
  have z5 : w2.cell? ⟨w.heap.size + 1 + 1, 5, none⟩ = some (.int .i64 0) := by rw [hc2 (w.heap.size + 1 + 1) 5 (by omega), hc1 (w.heap.size + 1 + 1) 5 (by simp <;> omega)]; go_simp
  have z6 : w2.cell? ⟨w.heap.size + 1 + 1, 6, none⟩ = some (.int .i64 0) := by rw [hc2 (w.heap.size + 1 + 1) 6 (by omega), hc1 (w.heap.size + 1 + 1) 6 (by simp <;> omega)]; go_simp
  have z7 : w2.cell? ⟨w.heap.size + 1 + 1, 7, none⟩ = some (.int .i64 0) := by rw [hc2 (w.heap.size + 1 + 1) 7 (by omega), hc1 (w.heap.size + 1 + 1) 7 (by simp <;> omega)]; go_simp
  clear hc1 hc2
  obtain ⟨t2, t3⟩ := twice c2 c3 (.int .i64 q) (.int .i64 p) (.int .i64 0) (.int .i64 0)
  go_wp2_with fail
  exact bodyPost_ret (v := .tuple #[.agg #[.int .i64 q, .int .i64 p, .int .i64 0, .int .i64 0, .bool false, .int .i64 l, .int .i64 s, .int .i64 y], .int .i64 0]) (by simp [results, Tryd.results18, go_sem, z0, z1, z2, z3, z4, z5, z6, z7]) rfl ⟨rfl, below_set8 (((((bnext (bnext ((((Below.refl _ _).alloc (Nat.le_refl _) _).alloc (by simp) _).alloc (by simp; omega) _) hb1) hb2).setCell (by simp) _).setCell (by simp) _).setCell (by simp) _).setCell (by simp) _) (by omega) _ _ _ _ _ _ _ _⟩

set_option maxHeartbeats 1000000 in
theorem rrs_new1 (q p nq np : Int) (l s y q2 p2 : Int) (w : World) (h : okB q p nq np l s y) (g : okR q2 p2) (k : ¬ q2 = q) :
    Calls Tryd.prog 18 #[.agg #[.int .i64 q, .int .i64 p, .int .i64 nq, .int .i64 np, .bool false, .int .i64 l, .int .i64 s, .int .i64 y], .agg #[.int .i64 q2, .int .i64 p2]] w fun e w' => e = .returned (.tuple #[.agg #[.int .i64 q, .int .i64 p, .int .i64 q2, .int .i64 p2, .bool false, .int .i64 l, .int .i64 s, .int .i64 y], .int .i64 0]) ∧ Below w.heap.size w w' := by
  have k1 : (q2 == q) = false := by simpa using k
  clear k
  have HV := Lib.hid h
  have HR := Lib.hid g
  clear h g
  go_enter Tryd.func18, Tryd.ntmps18
  go_wp2_with fail
  refine (rbvalid_ok q p nq np _ l s y _ HV.out).mono ?_
  rintro e w1 ⟨rfl, hb1⟩
  obtain ⟨hc1, hf1⟩ := bcell hb1
  have hz1 : w.heap.size + 1 + 1 < w1.heap.size := by have := hb1.size; simp at this; omega
  have hy1 : w.heap.size + 1 < w1.heap.size := by omega
  have hx1 : w.heap.size < w1.heap.size := by omega
  go_wp2_with fail
  refine (rvalid_ok q2 p2 _ HR.out).mono ?_
  rintro e w2 ⟨rfl, hb2⟩
  obtain ⟨hc2, hf2⟩ := bcell hb2
  have hz2 : w.heap.size + 1 + 1 < w2.heap.size := by have := hb2.size; omega
  have hy2 : w.heap.size + 1 < w2.heap.size := by omega
  have hx2 : w.heap.size < w2.heap.size := by omega
  have c0 : w2.cell? ⟨w.heap.size, 0, none⟩ = some (.int .i64 q) := by rw [hc2 (w.heap.size) 0 (by omega), hc1 (w.heap.size) 0 (by simp <;> omega)]; go_simp
  have c1 : w2.cell? ⟨w.heap.size, 1, none⟩ = some (.int .i64 p) := by rw [hc2 (w.heap.size) 1 (by omega), hc1 (w.heap.size) 1 (by simp <;> omega)]; go_simp
  have c2 : w2.cell? ⟨w.heap.size, 2, none⟩ = some (.int .i64 nq) := by rw [hc2 (w.heap.size) 2 (by omega), hc1 (w.heap.size) 2 (by simp <;> omega)]; go_simp
  have c3 : w2.cell? ⟨w.heap.size, 3, none⟩ = some (.int .i64 np) := by rw [hc2 (w.heap.size) 3 (by omega), hc1 (w.heap.size) 3 (by simp <;> omega)]; go_simp
  have c4 : w2.cell? ⟨w.heap.size, 4, none⟩ = some (.bool false) := by rw [hc2 (w.heap.size) 4 (by omega), hc1 (w.heap.size) 4 (by simp <;> omega)]; go_simp
  have c5 : w2.cell? ⟨w.heap.size, 5, none⟩ = some (.int .i64 l) := by rw [hc2 (w.heap.size) 5 (by omega), hc1 (w.heap.size) 5 (by simp <;> omega)]; go_simp
  have c6 : w2.cell? ⟨w.heap.size, 6, none⟩ = some (.int .i64 s) := by rw [hc2 (w.heap.size) 6 (by omega), hc1 (w.heap.size) 6 (by simp <;> omega)]; go_simp
  have c7 : w2.cell? ⟨w.heap.size, 7, none⟩ = some (.int .i64 y) := by rw [hc2 (w.heap.size) 7 (by omega), hc1 (w.heap.size) 7 (by simp <;> omega)]; go_simp
  have d0 : w2.cell? ⟨w.heap.size + 1, 0, none⟩ = some (.int .i64 q2) := by rw [hc2 (w.heap.size + 1) 0 (by omega), hc1 (w.heap.size + 1) 0 (by simp <;> omega)]; go_simp
  have d1 : w2.cell? ⟨w.heap.size + 1, 1, none⟩ = some (.int .i64 p2) := by rw [hc2 (w.heap.size + 1) 1 (by omega), hc1 (w.heap.size + 1) 1 (by simp <;> omega)]; go_simp
  have z0 : w2.cell? ⟨w.heap.size + 1 + 1, 0, none⟩ = some (.int .i64 0) := by rw [hc2 (w.heap.size + 1 + 1) 0 (by omega), hc1 (w.heap.size + 1 + 1) 0 (by simp <;> omega)]; go_simp
  have z1 : w2.cell? ⟨w.heap.size + 1 + 1, 1, none⟩ = some (.int .i64 0) := by rw [hc2 (w.heap.size + 1 + 1) 1 (by omega), hc1 (w.heap.size + 1 + 1) 1 (by simp <;> omega)]; go_simp
  have z2 : w2.cell? ⟨w.heap.size + 1 + 1, 2, none⟩ = some (.int .i64 0) := by rw [hc2 (w.heap.size + 1 + 1) 2 (by omega), hc1 (w.heap.size + 1 + 1) 2 (by simp <;> omega)]; go_simp
  have z3 : w2.cell? ⟨w.heap.size + 1 + 1, 3, none⟩ = some (.int .i64 0) := by rw [hc2 (w.heap.size + 1 + 1) 3 (by omega), hc1 (w.heap.size + 1 + 1) 3 (by simp <;> omega)]; go_simp
  have z4 : w2.cell? ⟨w.heap.size + 1 + 1, 4, none⟩ = some (.bool false) := by rw [hc2 (w.heap.size + 1 + 1) 4 (by omega), hc1 (w.heap.size + 1 + 1) 4 (by simp <;> omega)]; go_simp
  have z5 : w2.cell? ⟨w.heap.size + 1 + 1, 5, none⟩ = some (.int .i64 0) := by rw [hc2 (w.heap.size + 1 + 1) 5 (by omega), hc1 (w.heap.size + 1 + 1) 5 (by simp <;> omega)]; go_simp
  have z6 : w2.cell? ⟨w.heap.size + 1 + 1, 6, none⟩ = some (.int .i64 0) := by rw [hc2 (w.heap.size + 1 + 1) 6 (by omega), hc1 (w.heap.size + 1 + 1) 6 (by simp <;> omega)]; go_simp
  have z7 : w2.cell? ⟨w.heap.size + 1 + 1, 7, none⟩ = some (.int .i64 0) := by rw [hc2 (w.heap.size + 1 + 1) 7 (by omega), hc1 (w.heap.size + 1 + 1) 7 (by simp <;> omega)]; go_simp
  clear hc1 hc2
  go_wp2_with fail
  exact bodyPost_ret (v := .tuple #[.agg #[.int .i64 q, .int .i64 p, .int .i64 q2, .int .i64 p2, .bool false, .int .i64 l, .int .i64 s, .int .i64 y], .int .i64 0]) (by simp [results, Tryd.results18, go_sem, z0, z1, z2, z3, z4, z5, z6, z7]) rfl ⟨rfl, below_set8 (((bnext (bnext ((((Below.refl _ _).alloc (Nat.le_refl _) _).alloc (by simp) _).alloc (by simp; omega) _) hb1) hb2).setCell (by simp) _).setCell (by simp) _) (by omega) _ _ _ _ _ _ _ _⟩

set_option maxHeartbeats 1000000 in
theorem rrs_new2 (q p nq np : Int) (l s y p2 : Int) (w : World) (h : okB q p nq np l s y) (g : okR q p2) (k : ¬ p2 = p) :
    Calls Tryd.prog 18 #[.agg #[.int .i64 q, .int .i64 p, .int .i64 nq, .int .i64 np, .bool false, .int .i64 l, .int .i64 s, .int .i64 y], .agg #[.int .i64 q, .int .i64 p2]] w fun e w' => e = .returned (.tuple #[.agg #[.int .i64 q, .int .i64 p, .int .i64 q, .int .i64 p2, .bool false, .int .i64 l, .int .i64 s, .int .i64 y], .int .i64 0]) ∧ Below w.heap.size w w' := by
  have k1 : (p2 == p) = false := by simpa using k
  clear k
  have HV := Lib.hid h
  have HR := Lib.hid g
  clear h g
  go_enter Tryd.func18, Tryd.ntmps18
  go_wp2_with fail
  refine (rbvalid_ok q p nq np _ l s y _ HV.out).mono ?_
  rintro e w1 ⟨rfl, hb1⟩
  obtain ⟨hc1, hf1⟩ := bcell hb1
  have hz1 : w.heap.size + 1 + 1 < w1.heap.size := by have := hb1.size; simp at this; omega
  have hy1 : w.heap.size + 1 < w1.heap.size := by omega
  have hx1 : w.heap.size < w1.heap.size := by omega
  go_wp2_with fail
  refine (rvalid_ok q p2 _ HR.out).mono ?_
  rintro e w2 ⟨rfl, hb2⟩
  obtain ⟨hc2, hf2⟩ := bcell hb2
  have hz2 : w.heap.size + 1 + 1 < w2.heap.size := by have := hb2.size; omega
  have hy2 : w.heap.size + 1 < w2.heap.size := by omega
  have hx2 : w.heap.size < w2.heap.size := by omega
  have c0 : w2.cell? ⟨w.heap.size, 0, none⟩ = some (.int .i64 q) := by rw [hc2 (w.heap.size) 0 (by omega), hc1 (w.heap.size) 0 (by simp <;> omega)]; go_simp
  have c1 : w2.cell? ⟨w.heap.size, 1, none⟩ = some (.int .i64 p) := by rw [hc2 (w.heap.size) 1 (by omega), hc1 (w.heap.size) 1 (by simp <;> omega)]; go_simp
  have c2 : w2.cell? ⟨w.heap.size, 2, none⟩ = some (.int .i64 nq) := by rw [hc2 (w.heap.size) 2 (by omega), hc1 (w.heap.size) 2 (by simp <;> omega)]; go_simp
  have c3 : w2.cell? ⟨w.heap.size, 3, none⟩ = some (.int .i64 np) := by rw [hc2 (w.heap.size) 3 (by omega), hc1 (w.heap.size) 3 (by simp <;> omega)]; go_simp
  have c4 : w2.cell? ⟨w.heap.size, 4, none⟩ = some (.bool false) := by rw [hc2 (w.heap.size) 4 (by omega), hc1 (w.heap.size) 4 (by simp <;> omega)]; go_simp
  have c5 : w2.cell? ⟨w.heap.size, 5, none⟩ = some (.int .i64 l) := by rw [hc2 (w.heap.size) 5 (by omega), hc1 (w.heap.size) 5 (by simp <;> omega)]; go_simp
  have c6 : w2.cell? ⟨w.heap.size, 6, none⟩ = some (.int .i64 s) := by rw [hc2 (w.heap.size) 6 (by omega), hc1 (w.heap.size) 6 (by simp <;> omega)]; go_simp
  have c7 : w2.cell? ⟨w.heap.size, 7, none⟩ = some (.int .i64 y) := by rw [hc2 (w.heap.size) 7 (by omega), hc1 (w.heap.size) 7 (by simp <;> omega)]; go_simp
  have d0 : w2.cell? ⟨w.heap.size + 1, 0, none⟩ = some (.int .i64 q) := by rw [hc2 (w.heap.size + 1) 0 (by omega), hc1 (w.heap.size + 1) 0 (by simp <;> omega)]; go_simp
  have d1 : w2.cell? ⟨w.heap.size + 1, 1, none⟩ = some (.int .i64 p2) := by rw [hc2 (w.heap.size + 1) 1 (by omega), hc1 (w.heap.size + 1) 1 (by simp <;> omega)]; go_simp
  have z0 : w2.cell? ⟨w.heap.size + 1 + 1, 0, none⟩ = some (.int .i64 0) := by rw [hc2 (w.heap.size + 1 + 1) 0 (by omega), hc1 (w.heap.size + 1 + 1) 0 (by simp <;> omega)]; go_simp
  have z1 : w2.cell? ⟨w.heap.size + 1 + 1, 1, none⟩ = some (.int .i64 0) := by rw [hc2 (w.heap.size + 1 + 1) 1 (by omega), hc1 (w.heap.size + 1 + 1) 1 (by simp <;> omega)]; go_simp
  have z2 : w2.cell? ⟨w.heap.size + 1 + 1, 2, none⟩ = some (.int .i64 0) := by rw [hc2 (w.heap.size + 1 + 1) 2 (by omega), hc1 (w.heap.size + 1 + 1) 2 (by simp <;> omega)]; go_simp
  have z3 : w2.cell? ⟨w.heap.size + 1 + 1, 3, none⟩ = some (.int .i64 0) := by rw [hc2 (w.heap.size + 1 + 1) 3 (by omega), hc1 (w.heap.size + 1 + 1) 3 (by simp <;> omega)]; go_simp
  have z4 : w2.cell? ⟨w.heap.size + 1 + 1, 4, none⟩ = some (.bool false) := by rw [hc2 (w.heap.size + 1 + 1) 4 (by omega), hc1 (w.heap.size + 1 + 1) 4 (by simp <;> omega)]; go_simp
  have z5 : w2.cell? ⟨w.heap.size + 1 + 1, 5, none⟩ = some (.int .i64 0) := by rw [hc2 (w.heap.size + 1 + 1) 5 (by omega), hc1 (w.heap.size + 1 + 1) 5 (by simp <;> omega)]; go_simp
  have z6 : w2.cell? ⟨w.heap.size + 1 + 1, 6, none⟩ = some (.int .i64 0) := by rw [hc2 (w.heap.size + 1 + 1) 6 (by omega), hc1 (w.heap.size + 1 + 1) 6 (by simp <;> omega)]; go_simp
  have z7 : w2.cell? ⟨w.heap.size + 1 + 1, 7, none⟩ = some (.int .i64 0) := by rw [hc2 (w.heap.size + 1 + 1) 7 (by omega), hc1 (w.heap.size + 1 + 1) 7 (by simp <;> omega)]; go_simp
  clear hc1 hc2
  go_wp2_with fail
  exact bodyPost_ret (v := .tuple #[.agg #[.int .i64 q, .int .i64 p, .int .i64 q, .int .i64 p2, .bool false, .int .i64 l, .int .i64 s, .int .i64 y], .int .i64 0]) (by simp [results, Tryd.results18, go_sem, z0, z1, z2, z3, z4, z5, z6, z7]) rfl ⟨rfl, below_set8 (((bnext (bnext ((((Below.refl _ _).alloc (Nat.le_refl _) _).alloc (by simp) _).alloc (by simp; omega) _) hb1) hb2).setCell (by simp) _).setCell (by simp) _) (by omega) _ _ _ _ _ _ _ _⟩

set_option maxHeartbeats 1000000 in
theorem held_zero (q p : Int) (d : Bool) (l s y : Int) (w : World) (h : okR q p) :
    Calls Tryd.prog 27 #[.agg #[.int .i64 q, .int .i64 p, .int .i64 0, .int .i64 0, .bool d, .int .i64 l, .int .i64 s, .int .i64 y]] w fun e w' => e = .returned (.int .i64 (shareOf q p)) ∧ Below w.heap.size w w' := by
  have HV := Lib.hid h
  clear h
  go_enter Tryd.func27, Tryd.ntmps27
  go_wp2_with fail
  refine (runits_ok q p _ HV.out).mono ?_
  rintro e w1 ⟨rfl, hb1⟩
  obtain ⟨hc1, hf1⟩ := bcell hb1
  have hz1 : w.heap.size < w1.heap.size := by have := hb1.size; simp at this; omega
  go_wp2_with fail
  go_ret
  exact ⟨rfl, bnext ((Below.refl _ _).alloc (Nat.le_refl _) _) hb1⟩

set_option maxHeartbeats 1000000 in
theorem held_next (q p nq np : Int) (d : Bool) (l s y : Int) (w : World) (h : okR q p) (g : okR nq np) :
    Calls Tryd.prog 27 #[.agg #[.int .i64 q, .int .i64 p, .int .i64 nq, .int .i64 np, .bool d, .int .i64 l, .int .i64 s, .int .i64 y]] w fun e w' => e = .returned (.int .i64 (max (shareOf q p) (shareOf nq np))) ∧ Below w.heap.size w w' := by
  have z1 : (nq == 0) = false := by have := g.1; simp; omega
  have HV := Lib.hid h
  have HR := Lib.hid g
  clear h g
  go_enter Tryd.func27, Tryd.ntmps27
  go_wp2_with fail
  refine (runits_ok q p _ HV.out).mono ?_
  rintro e w1 ⟨rfl, hb1⟩
  obtain ⟨hc1, hf1⟩ := bcell hb1
  have hz1 : w.heap.size < w1.heap.size := by have := hb1.size; simp at this; omega
  go_wp2_with fail
  refine (runits_ok nq np _ HR.out).mono ?_
  rintro e w2 ⟨rfl, hb2⟩
  obtain ⟨hc2, hf2⟩ := bcell hb2
  go_wp2_with fail
  all_goals
    go_ret
    exact ⟨ret_int (by omega), bnext (bnext ((Below.refl _ _).alloc (Nat.le_refl _) _) hb1) hb2⟩

set_option maxHeartbeats 1000000 in
theorem rres_no (q p nq np : Int) (d : Bool) (l s y : Int) (w : World) (h : ¬ okB q p nq np l s y) :
    Calls Tryd.prog 20 #[.agg #[.int .i64 q, .int .i64 p, .int .i64 nq, .int .i64 np, .bool d, .int .i64 l, .int .i64 s, .int .i64 y]] w fun e w' => e = .returned (.tuple #[.int .i64 0, .int .i64 270]) ∧ Below w.heap.size w w' := by
  have HV := Lib.hid h
  clear h
  go_enter Tryd.func20, Tryd.ntmps20
  go_wp2_with fail
  refine (rbvalid_no q p nq np _ l s y _ HV.out).mono ?_
  rintro e w1 ⟨rfl, hb1⟩
  obtain ⟨hc1, hf1⟩ := bcell hb1
  go_wp2_with fail
  go_ret2
  exact ⟨rfl, bnext ((Below.refl _ _).alloc (Nat.le_refl _) _) hb1⟩

set_option maxHeartbeats 1000000 in
theorem rres_zero (q p : Int) (d : Bool) (l s y : Int) (w : World) (h : okB q p 0 0 l s y) :
    Calls Tryd.prog 20 #[.agg #[.int .i64 q, .int .i64 p, .int .i64 0, .int .i64 0, .bool d, .int .i64 l, .int .i64 s, .int .i64 y]] w fun e w' => e = .returned (.tuple #[.int .i64 (shareOf q p), .int .i64 0]) ∧ Below w.heap.size w w' := by
  have HN := Lib.hid h.now
  have HV := Lib.hid h
  clear h
  go_enter Tryd.func20, Tryd.ntmps20
  go_wp2_with fail
  refine (rbvalid_ok q p 0 0 _ l s y _ HV.out).mono ?_
  rintro e w1 ⟨rfl, hb1⟩
  obtain ⟨hc1, hf1⟩ := bcell hb1
  have hz1 : w.heap.size < w1.heap.size := by have := hb1.size; simp at this; omega
  go_wp2_with fail
  refine (held_zero q p _ l s y _ HN.out).mono ?_
  rintro e w2 ⟨rfl, hb2⟩
  obtain ⟨hc2, hf2⟩ := bcell hb2
  go_wp2_with fail
  go_ret2
  exact ⟨rfl, bnext (bnext ((Below.refl _ _).alloc (Nat.le_refl _) _) hb1) hb2⟩

set_option maxHeartbeats 1000000 in
theorem rres_next (q p nq np : Int) (d : Bool) (l s y : Int) (w : World) (h : okB q p nq np l s y) (g : okR nq np) :
    Calls Tryd.prog 20 #[.agg #[.int .i64 q, .int .i64 p, .int .i64 nq, .int .i64 np, .bool d, .int .i64 l, .int .i64 s, .int .i64 y]] w fun e w' => e = .returned (.tuple #[.int .i64 (max (shareOf q p) (shareOf nq np)), .int .i64 0]) ∧ Below w.heap.size w w' := by
  have HN := Lib.hid h.now
  have HV := Lib.hid h
  have HR := Lib.hid g
  clear h g
  go_enter Tryd.func20, Tryd.ntmps20
  go_wp2_with fail
  refine (rbvalid_ok q p nq np _ l s y _ HV.out).mono ?_
  rintro e w1 ⟨rfl, hb1⟩
  obtain ⟨hc1, hf1⟩ := bcell hb1
  have hz1 : w.heap.size < w1.heap.size := by have := hb1.size; simp at this; omega
  go_wp2_with fail
  refine (held_next q p nq np _ l s y _ HN.out HR.out).mono ?_
  rintro e w2 ⟨rfl, hb2⟩
  obtain ⟨hc2, hf2⟩ := bcell hb2
  go_wp2_with fail
  go_ret2
  exact ⟨rfl, bnext (bnext ((Below.refl _ _).alloc (Nat.le_refl _) _) hb1) hb2⟩

end Go.Proofs.YtbkbmpnhjmcenaaDoor
