/- The document's own book: New, Copy, Open, Of; no condition but those that each row names. -/
import Derived.Test.YtdbfjcdglcagaaaDoorPRow
import Derived.Deep.CutBlock
import Derived.Deep.CutRange
import Derived.Deep.DeepCutAuto
import Derived.BigRegion
namespace Go.Proofs.YtdbfjcdglcagaaaDoor
open Go.RowKit Bk

/-- What such a function answers. -/
def RPost (w : World) (L' : List Ln) (n : Int) (e : Ending) (w' : World) : Prop :=
  ∃ v', e = .returned (.tuple #[v', .int .i64 n]) ∧ Lns w' v' L' ∧ Below w.heap.size w w'
theorem below_new {w w2 : World} (hg2 : w.grownBy w2 (Value.slice none 0 0).ownBlock) : Below w.heap.size w w2 := (Below.refl _ _).grown hg2 (Nat.le_refl _) (fun k e => by simp [Value.ownBlock] at e)
set_option maxHeartbeats 1000000 in
theorem rcopy (w : World) (v : Value) (L : List Ln) (h : Lns w v L) (h4 : L.length ≤ 4096) :
    Calls Tryd.prog 37 #[v] w fun e w' => ∃ p cap, e = .returned (.slice p L.length cap) ∧ w'.ownsRow w.heap.size LT 14 (.slice p L.length cap) L.length (lnL L) ∧ Below w.heap.size w w' := by
  have HS := Lib.hid (src_lns h)
  clear h
  go_enter Tryd.func37, Tryd.ntmps37
  go_wp2_with (at_builtin; refine wpList_append_lns rfl _ _ rfl w.heap.size (.slice none 0 0) 0 [] rfl (World.ownsRow_nil _ _ _ _) _ L.length (lnL L) rfl HS.out (lnL_one _) (by omega) (Nat.le_refl _) ?_)
  intro p c w1 ho hg ha
  go_wp2_with fail
  go_ret
  try rw [Nat.zero_add] at ho
  exact ⟨p, c, rfl, ho, below_new hg⟩
set_option maxHeartbeats 1000000 in
theorem rnew (w : World) (root : Int) :
    Calls Tryd.prog 8 #[.int .i64 root] w fun e w' => ∃ v', e = .returned v' ∧ Lns w' v' [⟨root, 0, z6, z6⟩] ∧ Below w.heap.size w w' := by
  go_enter Tryd.func8, Tryd.ntmps8
  go_wp2_with fail
  go_ret
  refine ⟨_, rfl, own_of_row (cur := c14 ⟨root, 0, z6, z6⟩) (has_new w _ _ rfl) (Nat.zero_le _) (by simp) (by unfold maxLen; simp) rfl rfl, (by repeat (first | exact Below.refl _ _ | (with_reducible assumption) | refine Below.drew ?_ | (refine Below.alloc ?_ (by first | exact Nat.le_refl _ | omega | (simp; done) | (simp; omega)) _) | (refine Below.setCell ?_ (by first | omega | (simp; done) | (simp; omega)) _)))⟩
set_option maxHeartbeats 1000000 in
theorem rof15 (w : World) (v : Value) (L : List Ln) (h : Lns w v L) (h4 : L.length ≤ 4096) (id : Int) :
    Calls Tryd.prog 11 #[v, .int .i64 id] w fun e w' => e = .returned (.tuple #[aV (ofA L id), aV (ofC L id), .int .i64 (ofE L id)]) ∧ Below w.heap.size w w' := by
  have HP := Lib.hid (fun W (hb : Below w.heap.size w W) => rplace W v L (h.below hb) h4 id)
  unfold ofA ofC ofE
  cases hf : plc L id with
  | none =>
    rw [hf] at HP
    rw [(plc_none hf).1]
    have HP := Lib.hid (show ∀ W, Below w.heap.size w W → Calls Tryd.prog 30 #[v, .int .i64 id] W fun e w' => e = .returned (.int .i64 (-1)) ∧ W = w' from HP.out)
    clear h hf
    go_enter Tryd.func11, Tryd.ntmps11
    go_wp2_with fail
    refine (HP.out _ (by repeat (first | exact Below.refl _ _ | (with_reducible assumption) | refine Below.drew ?_ | (refine Below.alloc ?_ (by first | exact Nat.le_refl _ | omega | (simp; done) | (simp; omega)) _) | (refine Below.setCell ?_ (by first | omega | (simp; done) | (simp; omega)) _)))).mono ?_
    rintro e w1 ⟨rfl, rfl⟩
    go_wp2_with fail
    refine bodyPost_ret (v := .tuple #[aV z6, aV z6, .int .i64 20]) (by simp [results, Tryd.results11, go_sem, z6]) rfl ⟨rfl, (by repeat (first | exact Below.refl _ _ | (with_reducible assumption) | refine Below.drew ?_ | (refine Below.alloc ?_ (by first | exact Nat.le_refl _ | omega | (simp; done) | (simp; omega)) _) | (refine Below.setCell ?_ (by first | omega | (simp; done) | (simp; omega)) _)))⟩
  | some i =>
    rw [hf] at HP
    have HP := Lib.hid (show ∀ W, Below w.heap.size w W → Calls Tryd.prog 30 #[v, .int .i64 id] W fun e w' => e = .returned (.int .i64 (i : Nat)) ∧ W = w' from HP.out)
    obtain ⟨hil, _, hg, _⟩ := plc_some hf
    rw [hg]
    obtain ⟨g0, cap, rfl, hlc, _, hg0⟩ := own_block2 h (by omega)
    obtain ⟨WA, hWA⟩ : ∃ WA, WA = (w.alloc (.cells #[.int .i64 0, .int .i64 0, .int .i64 0, .int .i64 0, .int .i64 0, .int .i64 0] 34)).alloc (.cells #[.int .i64 0, .int .i64 0, .int .i64 0, .int .i64 0, .int .i64 0, .int .i64 0] 34) := ⟨_, rfl⟩
    have hbA : Below w.heap.size w WA := by rw [hWA]; exact (by repeat (first | exact Below.refl _ _ | (with_reducible assumption) | refine Below.drew ?_ | (refine Below.alloc ?_ (by first | exact Nat.le_refl _ | omega | (simp; done) | (simp; omega)) _) | (refine Below.setCell ?_ (by first | omega | (simp; done) | (simp; omega)) _)))
    have hA1 : Has WA w.heap.size (.cells #[.int .i64 0, .int .i64 0, .int .i64 0, .int .i64 0, .int .i64 0, .int .i64 0] 34) := by rw [hWA]; exact has_old (has_new w _ _ rfl) _
    have hA2 : Has WA (w.heap.size + 1) (.cells #[.int .i64 0, .int .i64 0, .int .i64 0, .int .i64 0, .int .i64 0, .int .i64 0] 34) := by rw [hWA]; exact has_new _ _ _ (by simp)
    obtain ⟨c0, c1, c2, c3, c4, c5, c6, c7, c8, c9, c10, c11, c12, c13⟩ := own_at14 (h.below hbA) rfl i hil
    have d := fun j => has_cell hA1 j
    have f := fun j => has_free hA1 j
    have d' := fun j => has_cell hA2 j
    have f' := fun j => has_free hA2 j
    have d0 := d 0; have d1 := d 1; have d2 := d 2; have d3 := d 3; have d4 := d 4; have d5 := d 5
    have e0 := d' 0; have e1 := d' 1; have e2 := d' 2; have e3 := d' 3; have e4 := d' 4; have e5 := d' 5
    simp only [List.getElem?_toArray, List.getElem?_cons_zero, List.getElem?_cons_succ] at d0 d1 d2 d3 d4 d5 e0 e1 e2 e3 e4 e5
    have hi0 : ¬ (i : Int) < 0 := by omega
    have hil' : (i : Int) < (L.length : Int) := by omega
    have HPA := Lib.hid (HP.out WA hbA)
    have HB := Lib.hid hbA
    have HW := Lib.hid hWA
    generalize L[i] = x at c0 c1 c2 c3 c4 c5 c6 c7 c8 c9 c10 c11 c12 c13 hg ⊢
    clear h hf hg HP hbA hWA d d' hA1 hA2
    go_enter Tryd.func11, Tryd.ntmps11
    go_wp2_with fail
    rw [← HW.out]
    refine HPA.out.mono ?_
    rintro e w1 ⟨rfl, rfl⟩
    go_wp2_with fail
    go_region
    all_goals (go_wp2_with fail)
    have hb := HB.out
    refine bodyPost_ret (v := .tuple #[aV x.a, aV x.c, .int .i64 0]) (by simp [results, Tryd.results11, go_sem, d0, d1, d2, d3, d4, d5, e0, e1, e2, e3, e4, e5]) rfl ⟨rfl, Below.drew ?_⟩
    iterate 12 (refine Below.setCell ?_ (by first | exact Nat.le_refl _ | exact Nat.le_succ _) _)
    exact hb

/-- Open. -/
theorem openE_0 {L : List Ln} {h p : Int} : openE L h p = 0 ↔ h ≠ 0 ∧ getB L p ≠ none ∧ getB L h = none := by
  unfold openE
  split
  · rename_i e; constructor
    · intro k; cases k
    · rintro ⟨a, b, _⟩; rcases e with e | e; exact absurd e a; exact absurd e b
  · rename_i e; split
    · rename_i e2; constructor
      · intro k; cases k
      · rintro ⟨_, _, k⟩; rw [k] at e2; cases e2
    · rename_i e2; constructor
      · intro _; exact ⟨fun k => e (.inl k), fun k => e (.inr k), by simpa using e2⟩
      · intro _; rfl
set_option maxHeartbeats 2000000 in
set_option maxRecDepth 100000 in
theorem ropen15 (w : World) (v : Value) (L : List Ln) (hL : Lns w v L) (h4 : L.length ≤ 4000) (h p : Int) :
    Calls Tryd.prog 21 #[v, .int .i64 h, .int .i64 p] w (RPost w (openB L h p) (openE L h p)) := by
  have HL := Lib.hid hL
  have HP := Lib.hid (fun id => rplace w v L hL (by omega) id)
  have HC := Lib.hid (rcopy w v L hL (by omega))
  clear hL
  by_cases e0 : h = 0
  · subst e0
    have hE : openE L 0 p = 20 := if_pos (.inl rfl)
    rw [show openB L 0 p = L from if_neg (by rw [hE]; decide), hE]
    clear hE
    go_enter Tryd.func21, Tryd.ntmps21
    go_wp2_with fail
    go_ret2
    exact ⟨_, rfl, HL.out, (by repeat (first | exact Below.refl _ _ | (with_reducible assumption) | refine Below.drew ?_ | (refine Below.alloc ?_ (by first | exact Nat.le_refl _ | omega | (simp; done) | (simp; omega)) _) | (refine Below.setCell ?_ (by first | omega | (simp; done) | (simp; omega)) _)))⟩
  · have z0 : (h == 0) = false := by simpa using e0
    cases hp : plc L p with
    | none =>
      have hE : openE L h p = 20 := if_pos (.inr (plc_none hp).1)
      rw [show openB L h p = L from if_neg (by rw [hE]; decide), hE]
      clear hE
      have HPp := Lib.hid (show Calls Tryd.prog 30 #[v, .int .i64 p] w fun e w' => e = .returned (.int .i64 (-1)) ∧ w = w' from by have := HP.out p; rw [hp] at this; exact this)
      clear HP hp e0
      go_enter Tryd.func21, Tryd.ntmps21
      go_wp2_with fail
      refine HPp.out.mono ?_
      rintro e w1 ⟨rfl, rfl⟩
      go_wp2_with fail
      go_ret2
      exact ⟨_, rfl, HL.out, (by repeat (first | exact Below.refl _ _ | (with_reducible assumption) | refine Below.drew ?_ | (refine Below.alloc ?_ (by first | exact Nat.le_refl _ | omega | (simp; done) | (simp; omega)) _) | (refine Below.setCell ?_ (by first | omega | (simp; done) | (simp; omega)) _)))⟩
    | some i =>
      have hN : ¬ (h = 0 ∨ getB L p = none) := fun k => by rcases k with k | k; exact e0 k; rw [(plc_some hp).2.2.1] at k; cases k
      have hi0 : ¬ (i : Int) < 0 := by omega
      have HPp := Lib.hid (show Calls Tryd.prog 30 #[v, .int .i64 p] w fun e w' => e = .returned (.int .i64 (i : Nat)) ∧ w = w' from by have := HP.out p; rw [hp] at this; exact this)
      cases hh : plc L h with
      | some k =>
        have hk0 : (k : Int) ≥ 0 := by omega
        have hE : openE L h p = 251 := by unfold openE; rw [if_neg hN, (plc_some hh).2.2.1]; rfl
        rw [show openB L h p = L from if_neg (by rw [hE]; decide), hE]
        clear hE
        have HPh := Lib.hid (show Calls Tryd.prog 30 #[v, .int .i64 h] w fun e w' => e = .returned (.int .i64 (k : Nat)) ∧ w = w' from by have := HP.out h; rw [hh] at this; exact this)
        clear HP hp hh e0 hN
        go_enter Tryd.func21, Tryd.ntmps21
        go_wp2_with fail
        refine HPp.out.mono ?_
        rintro e w1 ⟨rfl, rfl⟩
        go_wp2_with fail
        refine HPh.out.mono ?_
        rintro e w1 ⟨rfl, rfl⟩
        go_wp2_with fail
        go_ret2
        exact ⟨_, rfl, HL.out, (by repeat (first | exact Below.refl _ _ | (with_reducible assumption) | refine Below.drew ?_ | (refine Below.alloc ?_ (by first | exact Nat.le_refl _ | omega | (simp; done) | (simp; omega)) _) | (refine Below.setCell ?_ (by first | omega | (simp; done) | (simp; omega)) _)))⟩
      | none =>
        have hE : openE L h p = 0 := by unfold openE; rw [if_neg hN, (plc_none hh).1]; rfl
        rw [show openB L h p = L ++ [⟨h, p, z6, z6⟩] from if_pos hE, hE]
        clear hE
        have HPh := Lib.hid (show Calls Tryd.prog 30 #[v, .int .i64 h] w fun e w' => e = .returned (.int .i64 (-1)) ∧ w = w' from by have := HP.out h; rw [hh] at this; exact this)
        clear HP hp hh e0 hN
        go_enter Tryd.func21, Tryd.ntmps21
        go_wp2_with fail
        refine HPp.out.mono ?_
        rintro e w1 ⟨rfl, rfl⟩
        go_wp2_with fail
        refine HPh.out.mono ?_
        rintro e w1 ⟨rfl, rfl⟩
        go_wp2_with fail
        refine HC.out.mono ?_
        rintro e w1 ⟨p1, c1, rfl, ho1, hb1⟩
        have hb2 : Below w1.heap.size w1 (w1.alloc (.cells #[.int .i64 h, .int .i64 p, .int .i64 0, .int .i64 0, .int .i64 0, .int .i64 0, .int .i64 0, .int .i64 0, .int .i64 0, .int .i64 0, .int .i64 0, .int .i64 0, .int .i64 0, .int .i64 0] LT)) := (Below.refl _ _).alloc (Nat.le_refl _) _
        have HB1 := Lib.hid (bnext hb1 hb2)
        have HO1 := Lib.hid (own_under ho1 hb2)
        clear ho1 hb1 hb2
        go_wp2_with (at_builtin; refine wpList_append_lns rfl _ _ rfl w.heap.size (.slice p1 L.length c1) L.length (lnL L) rfl HO1.out _ 1 (c14 ⟨h, p, z6, z6⟩) rfl (src_one14 w1 ⟨h, p, z6, z6⟩ _) (lnL_one [⟨h, p, z6, z6⟩]) (by omega) HB1.out.size ?_)
        intro p2 c2 w2 ho2 hg2 ha2
        have hb := HB1.out.grown hg2 HB1.out.size (fun k e => by
          obtain ⟨_, h2⟩ := HO1.out
          rcases h2 with ⟨h2, _⟩ | ⟨g, cap, cur, e1, hg, _⟩
          · rw [h2] at e; simp [Value.ownBlock] at e
          · rw [e1] at e; simp [Value.ownBlock] at e; omega)
        have ho : w2.ownsRow 0 LT 14 (.slice p2 (L.length + 1) c2) (L.length + 1) (lnL (L ++ [⟨h, p, z6, z6⟩])) := by
          rw [lnL_append]
          exact own_base2 ho2 (Nat.zero_le _)
        clear ho2 hg2 ha2
        go_wp2_with fail
        go_ret2
        exact ⟨_, rfl, by unfold Lns; rw [List.length_append]; exact ho, hb⟩
end Go.Proofs.YtdbfjcdglcagaaaDoor
