/- The document's own book: Note; no condition but those that each row names. -/
import Derived.Test.YtdbfjcdglcagaaaDoorPRefA
import Derived.Test.YtdbfjcdglcagaaaDoorPNote
namespace Go.Proofs.YtdbfjcdglcagaaaDoor
open Go.RowKit Bk

theorem own_set14 {B : Nat} {w : World} {L : List Ln} {g n cap : Nat} (h : w.ownsRow B LT 14 (.slice (some ⟨g, 0, none⟩) n cap) n (lnL L)) (i : Nat) (hi : i < L.length) (r : Nat) (hr : r < 14) (v : Value) (x : Ln) (e : c14 x = (c14 L[i]).set r v) :
    (w.setCell ⟨g, i * 14 + r, none⟩ v).ownsRow B LT 14 (.slice (some ⟨g, 0, none⟩) n cap) n (lnL (L.set i x)) := by
  have := (World.ownsRow.stored h (i * 14 + r) v).1
  rwa [lnL_set1 L i hi r hr v x e] at this
/-- Answered as it came, with an error. -/
theorem rpost_same {w w' : World} {v : Value} {L : List Ln} {n : Int} (h : Lns w v L) (hb : Below w.heap.size w w') : RPost w L n (.returned (.tuple #[v, .int .i64 n])) w' := ⟨v, rfl, h.below hb, hb⟩
set_option maxHeartbeats 2000000 in
set_option maxRecDepth 100000 in
theorem rnote_none (w : World) (v : Value) (L : List Ln) (hL : Lns w v L) (h4 : L.length ≤ 4000) (k kind : Int) (late : Bool) (hx : plc L k = none) :
    Calls Tryd.prog 24 #[v, .int .i64 k, .int .i64 kind, .bool late] w (RPost w L 20) := by
  have HL := Lib.hid hL
  have HP := Lib.hid (show Calls Tryd.prog 30 #[v, .int .i64 k] w fun e w' => e = .returned (.int .i64 (-1)) ∧ w = w' from by have := rplace w v L hL (by omega) k; rw [hx] at this; exact this)
  clear hL hx
  go_enter Tryd.func24, Tryd.ntmps24
  go_wp2_with fail
  refine HP.out.mono ?_
  rintro e w1 ⟨rfl, rfl⟩
  go_wp2_with fail
  go_ret2
  exact rpost_same HL.out (Below.refl _ _)
set_option maxHeartbeats 2000000 in
set_option maxRecDepth 100000 in
theorem rnote_arg (w : World) (v : Value) (L : List Ln) (hL : Lns w v L) (h4 : L.length ≤ 4000) (k kind : Int) (late : Bool) (i : Nat) (hx : plc L k = some i) (h8 : kind ≠ 8) (h9 : kind ≠ 9) :
    Calls Tryd.prog 24 #[v, .int .i64 k, .int .i64 kind, .bool late] w (RPost w L 1) := by
  have HL := Lib.hid hL
  have HP := Lib.hid (show Calls Tryd.prog 30 #[v, .int .i64 k] w fun e w' => e = .returned (.int .i64 (i : Nat)) ∧ w = w' from by have := rplace w v L hL (by omega) k; rw [hx] at this; exact this)
  have hi0 : ¬ (i : Int) < 0 := by omega
  have z8 : (kind != 8) = true := by simpa using h8
  have z9 : (kind != 9) = true := by simpa using h9
  have z89 : (kind != 8 && kind != 9) = true := by rw [z8, z9]; rfl
  clear hL hx h8 h9
  go_enter Tryd.func24, Tryd.ntmps24
  go_wp2_with fail
  refine HP.out.mono ?_
  rintro e w1 ⟨rfl, rfl⟩
  go_wp2_with fail
  go_ret2
  exact rpost_same HL.out (Below.refl _ _)
set_option maxHeartbeats 2000000 in
set_option maxRecDepth 100000 in
theorem rnote_over8 (w : World) (v : Value) (L : List Ln) (hL : Lns w v L) (h4 : L.length ≤ 4000) (k : Int) (late : Bool) (i : Nat) (hx : plc L k = some i) (hi : i < L.length) (hm : 1073741824 ≤ L[i].a.d) :
    Calls Tryd.prog 24 #[v, .int .i64 k, .int .i64 8, .bool late] w (RPost w L 10) := by
  have HL := Lib.hid hL
  have HP := Lib.hid (show Calls Tryd.prog 30 #[v, .int .i64 k] w fun e w' => e = .returned (.int .i64 (i : Nat)) ∧ w = w' from by have := rplace w v L hL (by omega) k; rw [hx] at this; exact this)
  obtain ⟨g0, cap, rfl, hlc, _, hg0⟩ := own_block2 hL (by omega)
  obtain ⟨c0, c1, c2, c3, c4, c5, c6, c7, c8, c9, c10, c11, c12, c13⟩ := own_at14 hL rfl i hi
  have hi0 : ¬ (i : Int) < 0 := by omega
  have hil' : (i : Int) < (L.length : Int) := by omega
  generalize L[i] = x at c0 c1 c2 c3 c4 c5 c6 c7 c8 c9 c10 c11 c12 c13 hm
  clear hL hx
  go_enter Tryd.func24, Tryd.ntmps24
  go_wp2_with fail
  refine HP.out.mono ?_
  rintro e w1 ⟨rfl, rfl⟩
  go_wp2_with fail
  go_ret2
  exact rpost_same HL.out (Below.refl _ _)
set_option maxHeartbeats 2000000 in
set_option maxRecDepth 100000 in
theorem rnote_over9 (w : World) (v : Value) (L : List Ln) (hL : Lns w v L) (h4 : L.length ≤ 4000) (k : Int) (late : Bool) (i : Nat) (hx : plc L k = some i) (hi : i < L.length) (hm : 1073741824 ≤ L[i].a.c) :
    Calls Tryd.prog 24 #[v, .int .i64 k, .int .i64 9, .bool late] w (RPost w L 10) := by
  have HL := Lib.hid hL
  have HP := Lib.hid (show Calls Tryd.prog 30 #[v, .int .i64 k] w fun e w' => e = .returned (.int .i64 (i : Nat)) ∧ w = w' from by have := rplace w v L hL (by omega) k; rw [hx] at this; exact this)
  obtain ⟨g0, cap, rfl, hlc, _, hg0⟩ := own_block2 hL (by omega)
  obtain ⟨c0, c1, c2, c3, c4, c5, c6, c7, c8, c9, c10, c11, c12, c13⟩ := own_at14 hL rfl i hi
  have hi0 : ¬ (i : Int) < 0 := by omega
  have hil' : (i : Int) < (L.length : Int) := by omega
  generalize L[i] = x at c0 c1 c2 c3 c4 c5 c6 c7 c8 c9 c10 c11 c12 c13 hm
  clear hL hx
  go_enter Tryd.func24, Tryd.ntmps24
  go_wp2_with fail
  refine HP.out.mono ?_
  rintro e w1 ⟨rfl, rfl⟩
  go_wp2_with fail
  go_ret2
  exact rpost_same HL.out (Below.refl _ _)
set_option maxHeartbeats 2000000 in
set_option maxRecDepth 100000 in
theorem rnote_ok8_false (w : World) (v : Value) (L : List Ln) (hL : Lns w v L) (h4 : L.length ≤ 4000) (k : Int) (i : Nat) (hx : plc L k = some i) (hi : i < L.length) (hm : ¬ 1073741824 ≤ L[i].a.d) :
    Calls Tryd.prog 24 #[v, .int .i64 k, .int .i64 8, .bool false] w (RPost w (L.set i (noteUp 8 false L[i])) 0) := by
  have HP := Lib.hid (show Calls Tryd.prog 30 #[v, .int .i64 k] w fun e w' => e = .returned (.int .i64 (i : Nat)) ∧ w = w' from by have := rplace w v L hL (by omega) k; rw [hx] at this; exact this)
  have HC := Lib.hid (rcopy w v L hL (by omega))
  obtain ⟨g0, cap, rfl, hlc, _, hg0⟩ := own_block2 hL (by omega)
  have hi0 : ¬ (i : Int) < 0 := by omega
  have hil' : (i : Int) < (L.length : Int) := by omega
  obtain ⟨x, hxe⟩ : ∃ x, x = L[i] := ⟨_, rfl⟩
  obtain ⟨c0, c1, c2, c3, c4, c5, c6, c7, c8, c9, c10, c11, c12, c13⟩ := own_at14 hL rfl i hi
  rw [← hxe] at hm c0 c1 c2 c3 c4 c5 c6 c7 c8 c9 c10 c11 c12 c13 ⊢
  have HXE := Lib.hid hxe
  clear hL hx hxe
  go_enter Tryd.func24, Tryd.ntmps24
  go_wp2_with fail
  refine HP.out.mono ?_
  rintro e w1 ⟨rfl, rfl⟩
  go_wp2_with fail
  refine HC.out.mono ?_
  rintro e w1 ⟨p1, cap1, rfl, ho1, hb1⟩
  obtain ⟨g1, cap2, e1, hlc1, hge, hg1⟩ := own_block2 ho1 (by omega)
  cases e1
  have HB1 := Lib.hid hb1
  have hfz := fun j => World.ownsRow.frozenAt ho1 j
  clear c0 c1 c2 c3 c4 c5 c6 c7 c8 c9 c10 c11 c12 c13
  obtain ⟨c0, c1, c2, c3, c4, c5, c6, c7, c8, c9, c10, c11, c12, c13⟩ := own_at14 ho1 rfl i hi
  rw [← HXE.out] at c0 c1 c2 c3 c4 c5 c6 c7 c8 c9 c10 c11 c12 c13
  have HS1 := Lib.hid (own_set14 ho1 i hi 5 (by omega) (.int .i64 (wrap64 (x.a.d + 1))) (noteUp 8 false x) (by rw [← HXE.out]; rfl))
  clear ho1 hb1
  go_wp2_with fail
  go_ret2
  refine ⟨_, rfl, by unfold Lns; rw [List.length_set]; exact own_base2 HS1.out (Nat.zero_le _), ?_⟩
  have hb := HB1.out
  exact (by repeat (first | exact Below.refl _ _ | (with_reducible assumption) | refine Below.drew ?_ | (refine Below.alloc ?_ (by first | exact Nat.le_refl _ | omega | (simp; done) | (simp; omega)) _) | (refine Below.setCell ?_ (by first | omega | (simp; done) | (simp; omega)) _)))
set_option maxHeartbeats 2000000 in
set_option maxRecDepth 100000 in
theorem rnote_ok8_true (w : World) (v : Value) (L : List Ln) (hL : Lns w v L) (h4 : L.length ≤ 4000) (k : Int) (i : Nat) (hx : plc L k = some i) (hi : i < L.length) (hm : ¬ 1073741824 ≤ L[i].a.d) :
    Calls Tryd.prog 24 #[v, .int .i64 k, .int .i64 8, .bool true] w (RPost w (L.set i (noteUp 8 true L[i])) 0) := by
  have HP := Lib.hid (show Calls Tryd.prog 30 #[v, .int .i64 k] w fun e w' => e = .returned (.int .i64 (i : Nat)) ∧ w = w' from by have := rplace w v L hL (by omega) k; rw [hx] at this; exact this)
  have HC := Lib.hid (rcopy w v L hL (by omega))
  obtain ⟨g0, cap, rfl, hlc, _, hg0⟩ := own_block2 hL (by omega)
  have hi0 : ¬ (i : Int) < 0 := by omega
  have hil' : (i : Int) < (L.length : Int) := by omega
  obtain ⟨x, hxe⟩ : ∃ x, x = L[i] := ⟨_, rfl⟩
  obtain ⟨c0, c1, c2, c3, c4, c5, c6, c7, c8, c9, c10, c11, c12, c13⟩ := own_at14 hL rfl i hi
  rw [← hxe] at hm c0 c1 c2 c3 c4 c5 c6 c7 c8 c9 c10 c11 c12 c13 ⊢
  have HXE := Lib.hid hxe
  clear hL hx hxe
  go_enter Tryd.func24, Tryd.ntmps24
  go_wp2_with fail
  refine HP.out.mono ?_
  rintro e w1 ⟨rfl, rfl⟩
  go_wp2_with fail
  refine HC.out.mono ?_
  rintro e w1 ⟨p1, cap1, rfl, ho1, hb1⟩
  obtain ⟨g1, cap2, e1, hlc1, hge, hg1⟩ := own_block2 ho1 (by omega)
  cases e1
  have HB1 := Lib.hid hb1
  have hfz := fun j => World.ownsRow.frozenAt ho1 j
  clear c0 c1 c2 c3 c4 c5 c6 c7 c8 c9 c10 c11 c12 c13
  obtain ⟨c0, c1, c2, c3, c4, c5, c6, c7, c8, c9, c10, c11, c12, c13⟩ := own_at14 ho1 rfl i hi
  rw [← HXE.out] at c0 c1 c2 c3 c4 c5 c6 c7 c8 c9 c10 c11 c12 c13
  have HS1 := Lib.hid (own_set14 ho1 i hi 5 (by omega) (.int .i64 (wrap64 (x.a.d + 1))) (noteUp 8 false x) (by rw [← HXE.out]; rfl))
  have HS2 := Lib.hid (show ((w1.setCell ⟨g1, i * 14 + 5, none⟩ (.int .i64 (wrap64 (x.a.d + 1)))).setCell ⟨g1, i * 14 + 7, none⟩ (.int .i64 (wrap64 (x.a.t + 1)))).ownsRow w.heap.size LT 14 (.slice (some ⟨g1, 0, none⟩) L.length cap1) L.length (lnL (L.set i (noteUp 8 true x))) from by
    have hh := own_set14 HS1.out i (by simpa using hi) 7 (by omega) (.int .i64 (wrap64 (x.a.t + 1))) (noteUp 8 true x) (by simp only [List.getElem_set_self]; rfl)
    rwa [List.set_set] at hh)
  clear ho1 hb1
  go_wp2_with fail
  go_ret2
  refine ⟨_, rfl, by unfold Lns; rw [List.length_set]; exact own_base2 HS2.out (Nat.zero_le _), ?_⟩
  have hb := HB1.out
  exact (by repeat (first | exact Below.refl _ _ | (with_reducible assumption) | refine Below.drew ?_ | (refine Below.alloc ?_ (by first | exact Nat.le_refl _ | omega | (simp; done) | (simp; omega)) _) | (refine Below.setCell ?_ (by first | omega | (simp; done) | (simp; omega)) _)))
set_option maxHeartbeats 2000000 in
set_option maxRecDepth 100000 in
theorem rnote_ok9_false (w : World) (v : Value) (L : List Ln) (hL : Lns w v L) (h4 : L.length ≤ 4000) (k : Int) (i : Nat) (hx : plc L k = some i) (hi : i < L.length) (hm : ¬ 1073741824 ≤ L[i].a.c) :
    Calls Tryd.prog 24 #[v, .int .i64 k, .int .i64 9, .bool false] w (RPost w (L.set i (noteUp 9 false L[i])) 0) := by
  have HP := Lib.hid (show Calls Tryd.prog 30 #[v, .int .i64 k] w fun e w' => e = .returned (.int .i64 (i : Nat)) ∧ w = w' from by have := rplace w v L hL (by omega) k; rw [hx] at this; exact this)
  have HC := Lib.hid (rcopy w v L hL (by omega))
  obtain ⟨g0, cap, rfl, hlc, _, hg0⟩ := own_block2 hL (by omega)
  have hi0 : ¬ (i : Int) < 0 := by omega
  have hil' : (i : Int) < (L.length : Int) := by omega
  obtain ⟨x, hxe⟩ : ∃ x, x = L[i] := ⟨_, rfl⟩
  obtain ⟨c0, c1, c2, c3, c4, c5, c6, c7, c8, c9, c10, c11, c12, c13⟩ := own_at14 hL rfl i hi
  rw [← hxe] at hm c0 c1 c2 c3 c4 c5 c6 c7 c8 c9 c10 c11 c12 c13 ⊢
  have HXE := Lib.hid hxe
  clear hL hx hxe
  go_enter Tryd.func24, Tryd.ntmps24
  go_wp2_with fail
  refine HP.out.mono ?_
  rintro e w1 ⟨rfl, rfl⟩
  go_wp2_with fail
  refine HC.out.mono ?_
  rintro e w1 ⟨p1, cap1, rfl, ho1, hb1⟩
  obtain ⟨g1, cap2, e1, hlc1, hge, hg1⟩ := own_block2 ho1 (by omega)
  cases e1
  have HB1 := Lib.hid hb1
  have hfz := fun j => World.ownsRow.frozenAt ho1 j
  clear c0 c1 c2 c3 c4 c5 c6 c7 c8 c9 c10 c11 c12 c13
  obtain ⟨c0, c1, c2, c3, c4, c5, c6, c7, c8, c9, c10, c11, c12, c13⟩ := own_at14 ho1 rfl i hi
  rw [← HXE.out] at c0 c1 c2 c3 c4 c5 c6 c7 c8 c9 c10 c11 c12 c13
  have HS1 := Lib.hid (own_set14 ho1 i hi 6 (by omega) (.int .i64 (wrap64 (x.a.c + 1))) (noteUp 9 false x) (by rw [← HXE.out]; rfl))
  clear ho1 hb1
  go_wp2_with fail
  go_ret2
  refine ⟨_, rfl, by unfold Lns; rw [List.length_set]; exact own_base2 HS1.out (Nat.zero_le _), ?_⟩
  have hb := HB1.out
  exact (by repeat (first | exact Below.refl _ _ | (with_reducible assumption) | refine Below.drew ?_ | (refine Below.alloc ?_ (by first | exact Nat.le_refl _ | omega | (simp; done) | (simp; omega)) _) | (refine Below.setCell ?_ (by first | omega | (simp; done) | (simp; omega)) _)))
set_option maxHeartbeats 2000000 in
set_option maxRecDepth 100000 in
theorem rnote_ok9_true (w : World) (v : Value) (L : List Ln) (hL : Lns w v L) (h4 : L.length ≤ 4000) (k : Int) (i : Nat) (hx : plc L k = some i) (hi : i < L.length) (hm : ¬ 1073741824 ≤ L[i].a.c) :
    Calls Tryd.prog 24 #[v, .int .i64 k, .int .i64 9, .bool true] w (RPost w (L.set i (noteUp 9 true L[i])) 0) := by
  have HP := Lib.hid (show Calls Tryd.prog 30 #[v, .int .i64 k] w fun e w' => e = .returned (.int .i64 (i : Nat)) ∧ w = w' from by have := rplace w v L hL (by omega) k; rw [hx] at this; exact this)
  have HC := Lib.hid (rcopy w v L hL (by omega))
  obtain ⟨g0, cap, rfl, hlc, _, hg0⟩ := own_block2 hL (by omega)
  have hi0 : ¬ (i : Int) < 0 := by omega
  have hil' : (i : Int) < (L.length : Int) := by omega
  obtain ⟨x, hxe⟩ : ∃ x, x = L[i] := ⟨_, rfl⟩
  obtain ⟨c0, c1, c2, c3, c4, c5, c6, c7, c8, c9, c10, c11, c12, c13⟩ := own_at14 hL rfl i hi
  rw [← hxe] at hm c0 c1 c2 c3 c4 c5 c6 c7 c8 c9 c10 c11 c12 c13 ⊢
  have HXE := Lib.hid hxe
  clear hL hx hxe
  go_enter Tryd.func24, Tryd.ntmps24
  go_wp2_with fail
  refine HP.out.mono ?_
  rintro e w1 ⟨rfl, rfl⟩
  go_wp2_with fail
  refine HC.out.mono ?_
  rintro e w1 ⟨p1, cap1, rfl, ho1, hb1⟩
  obtain ⟨g1, cap2, e1, hlc1, hge, hg1⟩ := own_block2 ho1 (by omega)
  cases e1
  have HB1 := Lib.hid hb1
  have hfz := fun j => World.ownsRow.frozenAt ho1 j
  clear c0 c1 c2 c3 c4 c5 c6 c7 c8 c9 c10 c11 c12 c13
  obtain ⟨c0, c1, c2, c3, c4, c5, c6, c7, c8, c9, c10, c11, c12, c13⟩ := own_at14 ho1 rfl i hi
  rw [← HXE.out] at c0 c1 c2 c3 c4 c5 c6 c7 c8 c9 c10 c11 c12 c13
  have HS1 := Lib.hid (own_set14 ho1 i hi 6 (by omega) (.int .i64 (wrap64 (x.a.c + 1))) (noteUp 9 false x) (by rw [← HXE.out]; rfl))
  have HS2 := Lib.hid (show ((w1.setCell ⟨g1, i * 14 + 6, none⟩ (.int .i64 (wrap64 (x.a.c + 1)))).setCell ⟨g1, i * 14 + 7, none⟩ (.int .i64 (wrap64 (x.a.t + 1)))).ownsRow w.heap.size LT 14 (.slice (some ⟨g1, 0, none⟩) L.length cap1) L.length (lnL (L.set i (noteUp 9 true x))) from by
    have hh := own_set14 HS1.out i (by simpa using hi) 7 (by omega) (.int .i64 (wrap64 (x.a.t + 1))) (noteUp 9 true x) (by simp only [List.getElem_set_self]; rfl)
    rwa [List.set_set] at hh)
  clear ho1 hb1
  go_wp2_with fail
  go_ret2
  refine ⟨_, rfl, by unfold Lns; rw [List.length_set]; exact own_base2 HS2.out (Nat.zero_le _), ?_⟩
  have hb := HB1.out
  exact (by repeat (first | exact Below.refl _ _ | (with_reducible assumption) | refine Below.drew ?_ | (refine Below.alloc ?_ (by first | exact Nat.le_refl _ | omega | (simp; done) | (simp; omega)) _) | (refine Below.setCell ?_ (by first | omega | (simp; done) | (simp; omega)) _)))
theorem rnote (w : World) (v : Value) (L : List Ln) (hL : Lns w v L) (h4 : L.length ≤ 4000) (hn : Nd L) (k kind : Int) (late : Bool) :
    Calls Tryd.prog 24 #[v, .int .i64 k, .int .i64 kind, .bool late] w (RPost w (noteB L k kind late) (noteE L k kind)) := by
  unfold noteB
  cases hx : plc L k with
  | none =>
    have hE : noteE L k kind = 20 := by unfold noteE; rw [(plc_none hx).1]
    rw [hE, if_neg (by decide)]
    exact rnote_none w v L hL h4 k kind late hx
  | some i =>
    obtain ⟨hi, _, hg, _⟩ := plc_some hx
    have hU := fun f => (upd_set hn hx f).2
    by_cases h8 : kind = 8
    · subst h8
      by_cases hm : 1073741824 ≤ L[i].a.d
      · have hE : noteE L k 8 = 10 := by rw [noteE_some hg, if_neg (by decide), if_pos (.inl ⟨rfl, hm⟩)]
        rw [hE, if_neg (by decide)]
        exact rnote_over8 w v L hL h4 k late i hx hi hm
      · have hE : noteE L k 8 = 0 := by rw [noteE_some hg, if_neg (by decide), if_neg (by omega)]
        rw [hE, if_pos rfl, hU]
        cases late
        · exact rnote_ok8_false w v L hL h4 k i hx hi hm
        · exact rnote_ok8_true w v L hL h4 k i hx hi hm
    · by_cases h9 : kind = 9
      · subst h9
        by_cases hm : 1073741824 ≤ L[i].a.c
        · have hE : noteE L k 9 = 10 := by rw [noteE_some hg, if_neg (by decide), if_pos (.inr ⟨rfl, hm⟩)]
          rw [hE, if_neg (by decide)]
          exact rnote_over9 w v L hL h4 k late i hx hi hm
        · have hE : noteE L k 9 = 0 := by rw [noteE_some hg, if_neg (by decide), if_neg (by omega)]
          rw [hE, if_pos rfl, hU]
          cases late
          · exact rnote_ok9_false w v L hL h4 k i hx hi hm
          · exact rnote_ok9_true w v L hL h4 k i hx hi hm
      · have hE : noteE L k kind = 1 := by rw [noteE_some hg]; exact if_pos ⟨h8, h9⟩
        rw [hE, if_neg (by decide)]
        exact rnote_arg w v L hL h4 k kind late i hx h8 h9
end Go.Proofs.YtdbfjcdglcagaaaDoor
