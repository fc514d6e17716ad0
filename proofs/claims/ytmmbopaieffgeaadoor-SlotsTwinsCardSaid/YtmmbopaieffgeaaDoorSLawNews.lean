/- The walk of the law SlotsNews: it answers true for every kind and number of slots; it writes nothing that was there. -/
import Derived.Test.YtmmbopaieffgeaaDoorSStepA
namespace Go.Proofs.YtmmbopaieffgeaaDoor
open Go.RowKit

/-- The cells of a table by value that is laid at a new block. -/
theorem rv_cells (W : World) (k : Int) (gs ts ls : Value) (T : TypeId) : ∀ W', Below (W.alloc (.cells #[.int .i64 k, gs, ts, ls] T)).heap.size (W.alloc (.cells #[.int .i64 k, gs, ts, ls] T)) W' →
    W'.cell? ⟨W.heap.size, 0, none⟩ = some (.int .i64 k) ∧ W'.cell? ⟨W.heap.size, 1, none⟩ = some gs ∧ W'.cell? ⟨W.heap.size, 2, none⟩ = some ts ∧ W'.cell? ⟨W.heap.size, 3, none⟩ = some ls := fun W' h => by
  have hc : ∀ j, W'.cell? ⟨W.heap.size, j, none⟩ = _ := fun j => (h.cell (p := ⟨W.heap.size, j, none⟩) (by simp)).trans (has_cell (has_new W (.cells #[.int .i64 k, gs, ts, ls] T) _ rfl) j)
  exact ⟨hc 0, hc 1, hc 2, hc 3⟩

set_option maxHeartbeats 2000000 in
set_option maxRecDepth 100000 in
theorem news_no (kind many : Int) (w : World) (hg : LaidAt w) (h : ¬ (1 ≤ kind ∧ kind ≤ 3 ∧ 1 ≤ many ∧ many ≤ 4096)) :
    Calls Tryd.prog 3 #[.int .i64 kind, .int .i64 many] w fun e w' => e = .returned (.bool true) ∧ Below w.heap.size w w' := by
  have HP := Lib.hid (fun w => pnew_no kind many w h)
  have HR := Lib.hid (fun w => rnew_no kind many w h)
  have HG := Lib.hid hg
  clear h hg
  go_enter Tryd.func3, Tryd.ntmps3
  go_wp2_with fail
  refine (HP.out _).mono ?_
  rintro e w1 ⟨rfl, rfl⟩
  go_wp2_with fail
  refine (HR.out _).mono ?_
  rintro e w1 ⟨rfl, hb1⟩
  have HB1 := Lib.hid (below_alloc hb1 (.cells #[.int .i64 0, .slice none 0 0, .slice none 0 0, .slice none 0 0] 30))
  clear hb1
  go_wp2_with fail
  refine (num_errno 1 _ (HG.out.below HB1.out)).mono ?_
  rintro e w2 ⟨rfl, hb2⟩
  have HB2 := Lib.hid (bnext HB1.out hb2)
  clear hb2
  go_wp2_with fail
  refine (sure_true _).mono ?_
  rintro e w3 ⟨rfl, hb3⟩
  go_wp2_with fail
  go_ret
  exact ⟨rfl, bnext HB2.out hb3⟩

set_option maxHeartbeats 2000000 in
set_option maxRecDepth 100000 in
theorem news_ok (kind : Int) (n : Nat) (w : World) (hg : LaidAt w) (k1 : 1 ≤ kind) (k3 : kind ≤ 3) (n1 : 1 ≤ n) (n4 : n ≤ 4096) :
    Calls Tryd.prog 3 #[.int .i64 kind, .int .i64 n] w fun e w' => e = .returned (.bool true) ∧ Below w.heap.size w w' := by
  have HP := Lib.hid (fun w => pnew_ok kind n w k1 k3 n1 n4)
  have HR := Lib.hid (fun S w hS => rnew_ok S kind n w hS k1 k3 n1 n4)
  have HA := Lib.hid (new_good k1 k3 n1 n4)
  have HG := Lib.hid hg
  clear hg
  go_enter Tryd.func3, Tryd.ntmps3
  go_wp2_with fail
  refine (HP.out _).mono ?_
  rintro e w1 ⟨S, v, rfl, hpt, hb1⟩
  have HL := Lib.hid hpt.lt
  have HPT := Lib.hid hpt
  have HB1 := Lib.hid hb1
  obtain ⟨b, _, _, _, _, _, _, rfl, _, hSx⟩ := hpt
  clear hSx hb1
  go_wp2_with fail
  refine (HR.out S _ (fun y hy => (HL.out y hy).2)).mono ?_
  rintro e w2 ⟨gs, ts, ls, rfl, hrt, hb2⟩
  obtain ⟨pg, cg, qt, ct, rl, cl, rfl, rfl, rfl⟩ := hrt.shapes
  have hX := rv_cells w2 (Tab.new kind n).kind (.slice pg (Tab.new kind n).gens.length cg) (.slice qt (Tab.new kind n).taken.length ct) (.slice rl (Tab.new kind n).list.length cl) 30
  have HX := Lib.hid hX
  have HRT := Lib.hid hrt
  have HB2 := Lib.hid hb2
  clear hX hrt hb2
  go_wp2_with fail
  refine (num_nil _).mono ?_
  rintro e w3 ⟨rfl, hb3⟩
  obtain ⟨x0, x1, x2, x3⟩ := HX.out w3 hb3
  have hb23 : Below w2.heap.size w2 w3 := bnext (below_alloc (Below.refl _ _) _) hb3
  have HB3 := Lib.hid hb23
  clear hb3 hb23
  go_wp2_with fail
  refine (same_slots S S w.heap.size (Tab.new kind n) HA.out _ _ _ _ w3 (HPT.out.below (bnext HB2.out HB3.out)) (HRT.out.below HB3.out) (fun y hy => Nat.lt_of_lt_of_le (HL.out y hy).2 (bnext HB2.out HB3.out).size)).mono ?_
  rintro e w4 ⟨rfl, hb4⟩
  go_wp2_with fail
  refine (sure_true _).mono ?_
  rintro e w5 ⟨rfl, hb5⟩
  go_wp2_with fail
  go_ret
  exact ⟨rfl, bnext (bnext (bnext (bnext HB1.out HB2.out) HB3.out) hb4) hb5⟩

theorem news_any (kind many : Int) (w : World) (hg : LaidAt w) :
    Calls Tryd.prog 3 #[.int .i64 kind, .int .i64 many] w fun e w' => e = .returned (.bool true) ∧ Below w.heap.size w w' := by
  by_cases h : 1 ≤ kind ∧ kind ≤ 3 ∧ 1 ≤ many ∧ many ≤ 4096
  · obtain ⟨n, rfl⟩ := Int.eq_ofNat_of_zero_le (show 0 ≤ many by omega)
    exact news_ok kind n w hg h.1 h.2.1 (by omega) (by omega)
  · exact news_no kind many w hg h
end Go.Proofs.YtmmbopaieffgeaaDoor
