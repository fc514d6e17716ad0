/- The law's made: a tree as the program's error; no condition. -/
import Derived.Test.YtlnamkplbikcjaaGreatDoorYMany
import Derived.Test.YtlnamkplbikcjaaGreatDoorYErr
import Derived.Deep.RegionHeld3
namespace Go.Proofs.YtlnamkplbikcjaaGreatDoor
open Go.RowKit Ft

/-- What made answers. -/
def MadeP (w : World) (d : Dt) (r : Ending) (w' : World) : Prop := ∃ u, r = .returned u ∧ EV w'.heap.size w' d.toE u ∧ Below w.heap.size w w'
theorem keq {k c : Int} (h : k = c) : (k == c) = true := by subst h; exact beq_self_eq_true k
theorem kne {k c : Int} (h : k ≠ c) : (k == c) = false := beq_eq_false_iff_ne.2 h
set_option maxHeartbeats 8000000 in
set_option maxRecDepth 100000 in
theorem made_gen (d : Dt)
    (ih0 : ∀ (v : Value) (w : World), DV w d.kid0 v → Calls Tryz.prog 7 #[v] w (MadeP w d.kid0))
    (ih1 : ∀ (v : Value) (w : World), DV w d.kid1 v → Calls Tryz.prog 7 #[v] w (MadeP w d.kid1))
    (v : Value) (w : World) (hv : DV w d v) : Calls Tryz.prog 7 #[v] w (MadeP w d) := by
  obtain ⟨p, cap, rfl, hm, h0, h1⟩ := hv.parts
  have HI0 := Lib.hid (show ∀ W, Below w.heap.size w W → Calls Tryz.prog 21 #[.agg #[.int .i64 d.k, .int .i64 d.op, .int .i64 d.h, .int .i64 d.n, .string d.t, .slice p d.m cap], .int .i64 0] W fun r w' => ∃ x, r = .returned x ∧ Below W.heap.size W w' ∧ Hid (DV w' d.kid0 x) from fun W hW => (lin0 d _ w W hW hv).mono (by rintro r w' ⟨x, rfl, hx, hb⟩; exact ⟨x, rfl, hb, Lib.hid (DV.below (bnext hW hb) hx)⟩))
  have HN0 := Lib.hid (show d.kid0.toE = .nil → ∀ x W, DV W d.kid0 x → Calls Tryz.prog 7 #[x] W fun r w' => r = .returned .nilIface ∧ Below W.heap.size W w' ∧ Hid (EV w'.heap.size w' d.kid0.toE .nilIface) from fun he x W hx => (ih0 x W hx).mono (by
    rintro r w' ⟨u, rfl, hu, hb⟩
    have h2 := hu
    rw [he] at h2
    cases h2
    exact ⟨rfl, hb, Lib.hid hu⟩))
  have HS0 := Lib.hid (show d.kid0.toE ≠ .nil → ∀ x W, DV W d.kid0 x → Calls Tryz.prog 7 #[x] W fun r w' => ∃ ti pi, r = .returned (.iface ti pi) ∧ Below W.heap.size W w' ∧ Hid (EV w'.heap.size w' d.kid0.toE (.iface ti pi)) from fun he x W hx => (ih0 x W hx).mono (by
    rintro r w' ⟨u, rfl, hu, hb⟩
    obtain ⟨ti, pi, rfl⟩ := hu.iface he
    exact ⟨ti, pi, rfl, hb, Lib.hid hu⟩))
  have HI1 := Lib.hid (show ∀ W, Below w.heap.size w W → Calls Tryz.prog 21 #[.agg #[.int .i64 d.k, .int .i64 d.op, .int .i64 d.h, .int .i64 d.n, .string d.t, .slice p d.m cap], .int .i64 1] W fun r w' => ∃ x, r = .returned x ∧ Below W.heap.size W w' ∧ Hid (DV w' d.kid1 x) from fun W hW => (lin1 d _ w W hW hv).mono (by rintro r w' ⟨x, rfl, hx, hb⟩; exact ⟨x, rfl, hb, Lib.hid (DV.below (bnext hW hb) hx)⟩))
  have HN1 := Lib.hid (show d.kid1.toE = .nil → ∀ x W, DV W d.kid1 x → Calls Tryz.prog 7 #[x] W fun r w' => r = .returned .nilIface ∧ Below W.heap.size W w' ∧ Hid (EV w'.heap.size w' d.kid1.toE .nilIface) from fun he x W hx => (ih1 x W hx).mono (by
    rintro r w' ⟨u, rfl, hu, hb⟩
    have h2 := hu
    rw [he] at h2
    cases h2
    exact ⟨rfl, hb, Lib.hid hu⟩))
  have HS1 := Lib.hid (show d.kid1.toE ≠ .nil → ∀ x W, DV W d.kid1 x → Calls Tryz.prog 7 #[x] W fun r w' => ∃ ti pi, r = .returned (.iface ti pi) ∧ Below W.heap.size W w' ∧ Hid (EV w'.heap.size w' d.kid1.toE (.iface ti pi)) from fun he x W hx => (ih1 x W hx).mono (by
    rintro r w' ⟨u, rfl, hu, hb⟩
    obtain ⟨ti, pi, rfl⟩ := hu.iface he
    exact ⟨ti, pi, rfl, hb, Lib.hid hu⟩))
  have HE := Lib.hid (Dt.toE_eq d)
  unfold MadeP
  rw [HE.out]
  clear hv h0 h1 ih0 ih1 HE
  generalize d.k = k at *; generalize d.op = op at *; generalize d.h = h at *; generalize d.n = n at *; generalize d.t = t at *; generalize d.m = m at *
  generalize d.kid0 = e0 at *; generalize d.kid1 = e1 at *
  have hbx : Below w.heap.size w (w.alloc (.cells #[.int .i64 k, .int .i64 op, .int .i64 h, .int .i64 n, .string t, .slice p m cap] 25)) := (by repeat (first | exact Below.refl _ _ | (with_reducible assumption) | refine Below.drew ?_ | (refine Below.alloc ?_ (by first | exact Nat.le_refl _ | omega | (simp; done) | (simp; omega)) _) | (refine Below.setCell ?_ (by first | omega | (simp; done) | (simp; omega)) _)))
  have HB := Lib.hid hbx
  have HD := Lib.hid (below_drew hbx)
  clear hbx
  by_cases k1 : k = 1
  · rw [if_pos k1]
    have q1 := keq k1
    clear k1
    go_enter Tryz.func7, Tryz.ntmps7
    go_wp2_with fail
    go_ret
    exact ⟨_, rfl, rfl, HB.out⟩
  rw [if_neg k1]
  have q1 := kne k1
  clear k1
  by_cases k2 : k = 2
  · rw [if_pos k2]
    have q2 := keq k2
    clear k2
    by_cases hn0 : e0.toE = .nil
    · have HM0 := Lib.hid (HN0.out hn0)
      have H0N := Lib.hid hn0
      clear hn0
      go_enter Tryz.func7, Tryz.ntmps7
      go_wp2_with fail
      go_region_held3 (fun w' => w'.cell? ⟨w.heap.size, 0, none⟩ = some (.int .i64 k) ∧ w'.cell? ⟨w.heap.size, 1, none⟩ = some (.int .i64 op) ∧ w'.cell? ⟨w.heap.size, 2, none⟩ = some (.int .i64 h) ∧ w'.cell? ⟨w.heap.size, 3, none⟩ = some (.int .i64 n) ∧ w'.cell? ⟨w.heap.size, 4, none⟩ = some (.string t) ∧ w'.cell? ⟨w.heap.size, 5, none⟩ = some (.slice p m cap) ∧ Below w.heap.size w w')
      (first
        | exact ⟨by simp, by simp, by simp, by simp, by simp, by simp, HD.out⟩
        | (go_split_ands; refine ⟨(hb.cell (p := ⟨w.heap.size, 0, none⟩) (cell_lt (by assumption))).trans (by assumption), (hb.cell (p := ⟨w.heap.size, 1, none⟩) (cell_lt (by assumption))).trans (by assumption), (hb.cell (p := ⟨w.heap.size, 2, none⟩) (cell_lt (by assumption))).trans (by assumption), (hb.cell (p := ⟨w.heap.size, 3, none⟩) (cell_lt (by assumption))).trans (by assumption), (hb.cell (p := ⟨w.heap.size, 4, none⟩) (cell_lt (by assumption))).trans (by assumption), (hb.cell (p := ⟨w.heap.size, 5, none⟩) (cell_lt (by assumption))).trans (by assumption), bnext (by assumption) hb⟩)
        | (go_split_ands; (repeat' apply And.intro) <;> (first | exact below_alloc (by assumption) _ | go_keep))
        | go_keep)
      (first | (go_at_call 21; with_reducible refine (HI0.out _ (by first | assumption | (go_split_ands; assumption))).mono ?_; rintro r w' ⟨x0, rfl, hb, hx0⟩) | (go_at_call 7; with_reducible refine (HM0.out _ _ (by first | exact hx0.out | exact DV.below (by assumption) hx0.out | exact DV.below (by assumption) (DV.below (by assumption) hx0.out))).mono ?_; rintro r w' ⟨rfl, hb, hu0⟩))
      all_goals
        go_split_ands
        go_wp2_with fail
        go_ret
        exact ⟨_, rfl, ⟨_, .nilIface, rfl, by simp, by simp, by simp, by simp, (by first | exact hu0.out.below ((Below.refl _ _).alloc (Nat.le_refl _) _) | exact (hu0.out.below (by assumption)).below ((Below.refl _ _).alloc (Nat.le_refl _) _) | exact ((hu0.out.below (by assumption)).below (by assumption)).below ((Below.refl _ _).alloc (Nat.le_refl _) _) | exact (((hu0.out.below (by assumption)).below (by assumption)).below (by assumption)).below ((Below.refl _ _).alloc (Nat.le_refl _) _))⟩, by assumption⟩
    · have HM0 := Lib.hid (HS0.out hn0)
      have H0N := Lib.hid hn0
      clear hn0
      go_enter Tryz.func7, Tryz.ntmps7
      go_wp2_with fail
      go_region_held3 (fun w' => w'.cell? ⟨w.heap.size, 0, none⟩ = some (.int .i64 k) ∧ w'.cell? ⟨w.heap.size, 1, none⟩ = some (.int .i64 op) ∧ w'.cell? ⟨w.heap.size, 2, none⟩ = some (.int .i64 h) ∧ w'.cell? ⟨w.heap.size, 3, none⟩ = some (.int .i64 n) ∧ w'.cell? ⟨w.heap.size, 4, none⟩ = some (.string t) ∧ w'.cell? ⟨w.heap.size, 5, none⟩ = some (.slice p m cap) ∧ Below w.heap.size w w')
      (first
        | exact ⟨by simp, by simp, by simp, by simp, by simp, by simp, HD.out⟩
        | (go_split_ands; refine ⟨(hb.cell (p := ⟨w.heap.size, 0, none⟩) (cell_lt (by assumption))).trans (by assumption), (hb.cell (p := ⟨w.heap.size, 1, none⟩) (cell_lt (by assumption))).trans (by assumption), (hb.cell (p := ⟨w.heap.size, 2, none⟩) (cell_lt (by assumption))).trans (by assumption), (hb.cell (p := ⟨w.heap.size, 3, none⟩) (cell_lt (by assumption))).trans (by assumption), (hb.cell (p := ⟨w.heap.size, 4, none⟩) (cell_lt (by assumption))).trans (by assumption), (hb.cell (p := ⟨w.heap.size, 5, none⟩) (cell_lt (by assumption))).trans (by assumption), bnext (by assumption) hb⟩)
        | (go_split_ands; (repeat' apply And.intro) <;> (first | exact below_alloc (by assumption) _ | go_keep))
        | go_keep)
      (first | (go_at_call 21; with_reducible refine (HI0.out _ (by first | assumption | (go_split_ands; assumption))).mono ?_; rintro r w' ⟨x0, rfl, hb, hx0⟩) | (go_at_call 7; with_reducible refine (HM0.out _ _ (by first | exact hx0.out | exact DV.below (by assumption) hx0.out | exact DV.below (by assumption) (DV.below (by assumption) hx0.out))).mono ?_; rintro r w' ⟨ti0, pi0, rfl, hb, hu0⟩))
      all_goals
        go_split_ands
        go_wp2_with fail
        go_ret
        exact ⟨_, rfl, ⟨_, .iface ti0 pi0, rfl, by simp, by simp, by simp, by simp, (by first | exact hu0.out.below ((Below.refl _ _).alloc (Nat.le_refl _) _) | exact (hu0.out.below (by assumption)).below ((Below.refl _ _).alloc (Nat.le_refl _) _) | exact ((hu0.out.below (by assumption)).below (by assumption)).below ((Below.refl _ _).alloc (Nat.le_refl _) _) | exact (((hu0.out.below (by assumption)).below (by assumption)).below (by assumption)).below ((Below.refl _ _).alloc (Nat.le_refl _) _))⟩, by assumption⟩
  rw [if_neg k2]
  have q2 := kne k2
  clear k2
  by_cases k3 : k = 3
  · rw [if_pos k3]
    have q3 := keq k3
    clear k3
    by_cases hn0 : e0.toE = .nil
    · have HM0 := Lib.hid (HN0.out hn0)
      have H0N := Lib.hid hn0
      clear hn0
      go_enter Tryz.func7, Tryz.ntmps7
      go_wp2_with fail
      go_region_held3 (fun w' => w'.cell? ⟨w.heap.size, 0, none⟩ = some (.int .i64 k) ∧ w'.cell? ⟨w.heap.size, 1, none⟩ = some (.int .i64 op) ∧ w'.cell? ⟨w.heap.size, 2, none⟩ = some (.int .i64 h) ∧ w'.cell? ⟨w.heap.size, 3, none⟩ = some (.int .i64 n) ∧ w'.cell? ⟨w.heap.size, 4, none⟩ = some (.string t) ∧ w'.cell? ⟨w.heap.size, 5, none⟩ = some (.slice p m cap) ∧ Below w.heap.size w w')
      (first
        | exact ⟨by simp, by simp, by simp, by simp, by simp, by simp, HD.out⟩
        | (go_split_ands; refine ⟨(hb.cell (p := ⟨w.heap.size, 0, none⟩) (cell_lt (by assumption))).trans (by assumption), (hb.cell (p := ⟨w.heap.size, 1, none⟩) (cell_lt (by assumption))).trans (by assumption), (hb.cell (p := ⟨w.heap.size, 2, none⟩) (cell_lt (by assumption))).trans (by assumption), (hb.cell (p := ⟨w.heap.size, 3, none⟩) (cell_lt (by assumption))).trans (by assumption), (hb.cell (p := ⟨w.heap.size, 4, none⟩) (cell_lt (by assumption))).trans (by assumption), (hb.cell (p := ⟨w.heap.size, 5, none⟩) (cell_lt (by assumption))).trans (by assumption), bnext (by assumption) hb⟩)
        | (go_split_ands; (repeat' apply And.intro) <;> (first | exact below_alloc (by assumption) _ | go_keep))
        | go_keep)
      (first | (go_at_call 21; with_reducible refine (HI0.out _ (by first | assumption | (go_split_ands; assumption))).mono ?_; rintro r w' ⟨x0, rfl, hb, hx0⟩) | (go_at_call 7; with_reducible refine (HM0.out _ _ (by first | exact hx0.out | exact DV.below (by assumption) hx0.out | exact DV.below (by assumption) (DV.below (by assumption) hx0.out))).mono ?_; rintro r w' ⟨rfl, hb, hu0⟩))
      all_goals
        go_split_ands
        go_wp2_with fail
        go_ret
        exact ⟨_, rfl, ⟨_, .nilIface, rfl, by simp, by simp, by simp, (by first | exact hu0.out.below ((Below.refl _ _).alloc (Nat.le_refl _) _) | exact (hu0.out.below (by assumption)).below ((Below.refl _ _).alloc (Nat.le_refl _) _) | exact ((hu0.out.below (by assumption)).below (by assumption)).below ((Below.refl _ _).alloc (Nat.le_refl _) _) | exact (((hu0.out.below (by assumption)).below (by assumption)).below (by assumption)).below ((Below.refl _ _).alloc (Nat.le_refl _) _))⟩, by assumption⟩
    · have HM0 := Lib.hid (HS0.out hn0)
      have H0N := Lib.hid hn0
      clear hn0
      go_enter Tryz.func7, Tryz.ntmps7
      go_wp2_with fail
      go_region_held3 (fun w' => w'.cell? ⟨w.heap.size, 0, none⟩ = some (.int .i64 k) ∧ w'.cell? ⟨w.heap.size, 1, none⟩ = some (.int .i64 op) ∧ w'.cell? ⟨w.heap.size, 2, none⟩ = some (.int .i64 h) ∧ w'.cell? ⟨w.heap.size, 3, none⟩ = some (.int .i64 n) ∧ w'.cell? ⟨w.heap.size, 4, none⟩ = some (.string t) ∧ w'.cell? ⟨w.heap.size, 5, none⟩ = some (.slice p m cap) ∧ Below w.heap.size w w')
      (first
        | exact ⟨by simp, by simp, by simp, by simp, by simp, by simp, HD.out⟩
        | (go_split_ands; refine ⟨(hb.cell (p := ⟨w.heap.size, 0, none⟩) (cell_lt (by assumption))).trans (by assumption), (hb.cell (p := ⟨w.heap.size, 1, none⟩) (cell_lt (by assumption))).trans (by assumption), (hb.cell (p := ⟨w.heap.size, 2, none⟩) (cell_lt (by assumption))).trans (by assumption), (hb.cell (p := ⟨w.heap.size, 3, none⟩) (cell_lt (by assumption))).trans (by assumption), (hb.cell (p := ⟨w.heap.size, 4, none⟩) (cell_lt (by assumption))).trans (by assumption), (hb.cell (p := ⟨w.heap.size, 5, none⟩) (cell_lt (by assumption))).trans (by assumption), bnext (by assumption) hb⟩)
        | (go_split_ands; (repeat' apply And.intro) <;> (first | exact below_alloc (by assumption) _ | go_keep))
        | go_keep)
      (first | (go_at_call 21; with_reducible refine (HI0.out _ (by first | assumption | (go_split_ands; assumption))).mono ?_; rintro r w' ⟨x0, rfl, hb, hx0⟩) | (go_at_call 7; with_reducible refine (HM0.out _ _ (by first | exact hx0.out | exact DV.below (by assumption) hx0.out | exact DV.below (by assumption) (DV.below (by assumption) hx0.out))).mono ?_; rintro r w' ⟨ti0, pi0, rfl, hb, hu0⟩))
      all_goals
        go_split_ands
        go_wp2_with fail
        go_ret
        exact ⟨_, rfl, ⟨_, .iface ti0 pi0, rfl, by simp, by simp, by simp, (by first | exact hu0.out.below ((Below.refl _ _).alloc (Nat.le_refl _) _) | exact (hu0.out.below (by assumption)).below ((Below.refl _ _).alloc (Nat.le_refl _) _) | exact ((hu0.out.below (by assumption)).below (by assumption)).below ((Below.refl _ _).alloc (Nat.le_refl _) _) | exact (((hu0.out.below (by assumption)).below (by assumption)).below (by assumption)).below ((Below.refl _ _).alloc (Nat.le_refl _) _))⟩, by assumption⟩
  rw [if_neg k3]
  have q3 := kne k3
  clear k3
  by_cases k4 : k = 4
  · rw [if_pos k4]
    have q4 := keq k4
    clear k4
    by_cases hn0 : e0.toE = .nil
    · have HM0 := Lib.hid (HN0.out hn0)
      have H0N := Lib.hid hn0
      clear hn0
      by_cases hn1 : e1.toE = .nil
      · have HM1 := Lib.hid (HN1.out hn1)
        have H1N := Lib.hid hn1
        clear hn1
        go_enter Tryz.func7, Tryz.ntmps7
        go_wp2_with fail
        go_region_held3 (fun w' => w'.cell? ⟨w.heap.size, 0, none⟩ = some (.int .i64 k) ∧ w'.cell? ⟨w.heap.size, 1, none⟩ = some (.int .i64 op) ∧ w'.cell? ⟨w.heap.size, 2, none⟩ = some (.int .i64 h) ∧ w'.cell? ⟨w.heap.size, 3, none⟩ = some (.int .i64 n) ∧ w'.cell? ⟨w.heap.size, 4, none⟩ = some (.string t) ∧ w'.cell? ⟨w.heap.size, 5, none⟩ = some (.slice p m cap) ∧ Below w.heap.size w w')
      (first
        | exact ⟨by simp, by simp, by simp, by simp, by simp, by simp, HD.out⟩
        | (go_split_ands; refine ⟨(hb.cell (p := ⟨w.heap.size, 0, none⟩) (cell_lt (by assumption))).trans (by assumption), (hb.cell (p := ⟨w.heap.size, 1, none⟩) (cell_lt (by assumption))).trans (by assumption), (hb.cell (p := ⟨w.heap.size, 2, none⟩) (cell_lt (by assumption))).trans (by assumption), (hb.cell (p := ⟨w.heap.size, 3, none⟩) (cell_lt (by assumption))).trans (by assumption), (hb.cell (p := ⟨w.heap.size, 4, none⟩) (cell_lt (by assumption))).trans (by assumption), (hb.cell (p := ⟨w.heap.size, 5, none⟩) (cell_lt (by assumption))).trans (by assumption), bnext (by assumption) hb⟩)
        | (go_split_ands; (repeat' apply And.intro) <;> (first | exact below_alloc (by assumption) _ | go_keep))
        | go_keep)
      (first | (go_at_call 21; with_reducible refine (HI0.out _ (by first | assumption | (go_split_ands; assumption))).mono ?_; rintro r w' ⟨x0, rfl, hb, hx0⟩) | (go_at_call 21; with_reducible refine (HI1.out _ (by first | assumption | (go_split_ands; assumption))).mono ?_; rintro r w' ⟨x1, rfl, hb, hx1⟩) | (go_at_call 7; with_reducible refine (HM0.out _ _ (by first | exact hx0.out | exact DV.below (by assumption) hx0.out | exact DV.below (by assumption) (DV.below (by assumption) hx0.out))).mono ?_; rintro r w' ⟨rfl, hb, hu0⟩) | (go_at_call 7; with_reducible refine (HM1.out _ _ (by first | exact hx1.out | exact DV.below (by assumption) hx1.out | exact DV.below (by assumption) (DV.below (by assumption) hx1.out))).mono ?_; rintro r w' ⟨rfl, hb, hu1⟩))
        all_goals
          go_split_ands
          go_wp2_with fail
          go_ret
          exact ⟨_, rfl, ⟨_, .nilIface, .nilIface, rfl, by simp, by simp, by simp, (by first | exact hu0.out.below ((Below.refl _ _).alloc (Nat.le_refl _) _) | exact (hu0.out.below (by assumption)).below ((Below.refl _ _).alloc (Nat.le_refl _) _) | exact ((hu0.out.below (by assumption)).below (by assumption)).below ((Below.refl _ _).alloc (Nat.le_refl _) _) | exact (((hu0.out.below (by assumption)).below (by assumption)).below (by assumption)).below ((Below.refl _ _).alloc (Nat.le_refl _) _)), (by first | exact hu1.out.below ((Below.refl _ _).alloc (Nat.le_refl _) _) | exact (hu1.out.below (by assumption)).below ((Below.refl _ _).alloc (Nat.le_refl _) _) | exact ((hu1.out.below (by assumption)).below (by assumption)).below ((Below.refl _ _).alloc (Nat.le_refl _) _) | exact (((hu1.out.below (by assumption)).below (by assumption)).below (by assumption)).below ((Below.refl _ _).alloc (Nat.le_refl _) _))⟩, by assumption⟩
      · have HM1 := Lib.hid (HS1.out hn1)
        have H1N := Lib.hid hn1
        clear hn1
        go_enter Tryz.func7, Tryz.ntmps7
        go_wp2_with fail
        go_region_held3 (fun w' => w'.cell? ⟨w.heap.size, 0, none⟩ = some (.int .i64 k) ∧ w'.cell? ⟨w.heap.size, 1, none⟩ = some (.int .i64 op) ∧ w'.cell? ⟨w.heap.size, 2, none⟩ = some (.int .i64 h) ∧ w'.cell? ⟨w.heap.size, 3, none⟩ = some (.int .i64 n) ∧ w'.cell? ⟨w.heap.size, 4, none⟩ = some (.string t) ∧ w'.cell? ⟨w.heap.size, 5, none⟩ = some (.slice p m cap) ∧ Below w.heap.size w w')
      (first
        | exact ⟨by simp, by simp, by simp, by simp, by simp, by simp, HD.out⟩
        | (go_split_ands; refine ⟨(hb.cell (p := ⟨w.heap.size, 0, none⟩) (cell_lt (by assumption))).trans (by assumption), (hb.cell (p := ⟨w.heap.size, 1, none⟩) (cell_lt (by assumption))).trans (by assumption), (hb.cell (p := ⟨w.heap.size, 2, none⟩) (cell_lt (by assumption))).trans (by assumption), (hb.cell (p := ⟨w.heap.size, 3, none⟩) (cell_lt (by assumption))).trans (by assumption), (hb.cell (p := ⟨w.heap.size, 4, none⟩) (cell_lt (by assumption))).trans (by assumption), (hb.cell (p := ⟨w.heap.size, 5, none⟩) (cell_lt (by assumption))).trans (by assumption), bnext (by assumption) hb⟩)
        | (go_split_ands; (repeat' apply And.intro) <;> (first | exact below_alloc (by assumption) _ | go_keep))
        | go_keep)
      (first | (go_at_call 21; with_reducible refine (HI0.out _ (by first | assumption | (go_split_ands; assumption))).mono ?_; rintro r w' ⟨x0, rfl, hb, hx0⟩) | (go_at_call 21; with_reducible refine (HI1.out _ (by first | assumption | (go_split_ands; assumption))).mono ?_; rintro r w' ⟨x1, rfl, hb, hx1⟩) | (go_at_call 7; with_reducible refine (HM0.out _ _ (by first | exact hx0.out | exact DV.below (by assumption) hx0.out | exact DV.below (by assumption) (DV.below (by assumption) hx0.out))).mono ?_; rintro r w' ⟨rfl, hb, hu0⟩) | (go_at_call 7; with_reducible refine (HM1.out _ _ (by first | exact hx1.out | exact DV.below (by assumption) hx1.out | exact DV.below (by assumption) (DV.below (by assumption) hx1.out))).mono ?_; rintro r w' ⟨ti1, pi1, rfl, hb, hu1⟩))
        all_goals
          go_split_ands
          go_wp2_with fail
          go_ret
          exact ⟨_, rfl, ⟨_, .nilIface, .iface ti1 pi1, rfl, by simp, by simp, by simp, (by first | exact hu0.out.below ((Below.refl _ _).alloc (Nat.le_refl _) _) | exact (hu0.out.below (by assumption)).below ((Below.refl _ _).alloc (Nat.le_refl _) _) | exact ((hu0.out.below (by assumption)).below (by assumption)).below ((Below.refl _ _).alloc (Nat.le_refl _) _) | exact (((hu0.out.below (by assumption)).below (by assumption)).below (by assumption)).below ((Below.refl _ _).alloc (Nat.le_refl _) _)), (by first | exact hu1.out.below ((Below.refl _ _).alloc (Nat.le_refl _) _) | exact (hu1.out.below (by assumption)).below ((Below.refl _ _).alloc (Nat.le_refl _) _) | exact ((hu1.out.below (by assumption)).below (by assumption)).below ((Below.refl _ _).alloc (Nat.le_refl _) _) | exact (((hu1.out.below (by assumption)).below (by assumption)).below (by assumption)).below ((Below.refl _ _).alloc (Nat.le_refl _) _))⟩, by assumption⟩
    · have HM0 := Lib.hid (HS0.out hn0)
      have H0N := Lib.hid hn0
      clear hn0
      by_cases hn1 : e1.toE = .nil
      · have HM1 := Lib.hid (HN1.out hn1)
        have H1N := Lib.hid hn1
        clear hn1
        go_enter Tryz.func7, Tryz.ntmps7
        go_wp2_with fail
        go_region_held3 (fun w' => w'.cell? ⟨w.heap.size, 0, none⟩ = some (.int .i64 k) ∧ w'.cell? ⟨w.heap.size, 1, none⟩ = some (.int .i64 op) ∧ w'.cell? ⟨w.heap.size, 2, none⟩ = some (.int .i64 h) ∧ w'.cell? ⟨w.heap.size, 3, none⟩ = some (.int .i64 n) ∧ w'.cell? ⟨w.heap.size, 4, none⟩ = some (.string t) ∧ w'.cell? ⟨w.heap.size, 5, none⟩ = some (.slice p m cap) ∧ Below w.heap.size w w')
      (first
        | exact ⟨by simp, by simp, by simp, by simp, by simp, by simp, HD.out⟩
        | (go_split_ands; refine ⟨(hb.cell (p := ⟨w.heap.size, 0, none⟩) (cell_lt (by assumption))).trans (by assumption), (hb.cell (p := ⟨w.heap.size, 1, none⟩) (cell_lt (by assumption))).trans (by assumption), (hb.cell (p := ⟨w.heap.size, 2, none⟩) (cell_lt (by assumption))).trans (by assumption), (hb.cell (p := ⟨w.heap.size, 3, none⟩) (cell_lt (by assumption))).trans (by assumption), (hb.cell (p := ⟨w.heap.size, 4, none⟩) (cell_lt (by assumption))).trans (by assumption), (hb.cell (p := ⟨w.heap.size, 5, none⟩) (cell_lt (by assumption))).trans (by assumption), bnext (by assumption) hb⟩)
        | (go_split_ands; (repeat' apply And.intro) <;> (first | exact below_alloc (by assumption) _ | go_keep))
        | go_keep)
      (first | (go_at_call 21; with_reducible refine (HI0.out _ (by first | assumption | (go_split_ands; assumption))).mono ?_; rintro r w' ⟨x0, rfl, hb, hx0⟩) | (go_at_call 21; with_reducible refine (HI1.out _ (by first | assumption | (go_split_ands; assumption))).mono ?_; rintro r w' ⟨x1, rfl, hb, hx1⟩) | (go_at_call 7; with_reducible refine (HM0.out _ _ (by first | exact hx0.out | exact DV.below (by assumption) hx0.out | exact DV.below (by assumption) (DV.below (by assumption) hx0.out))).mono ?_; rintro r w' ⟨ti0, pi0, rfl, hb, hu0⟩) | (go_at_call 7; with_reducible refine (HM1.out _ _ (by first | exact hx1.out | exact DV.below (by assumption) hx1.out | exact DV.below (by assumption) (DV.below (by assumption) hx1.out))).mono ?_; rintro r w' ⟨rfl, hb, hu1⟩))
        all_goals
          go_split_ands
          go_wp2_with fail
          go_ret
          exact ⟨_, rfl, ⟨_, .iface ti0 pi0, .nilIface, rfl, by simp, by simp, by simp, (by first | exact hu0.out.below ((Below.refl _ _).alloc (Nat.le_refl _) _) | exact (hu0.out.below (by assumption)).below ((Below.refl _ _).alloc (Nat.le_refl _) _) | exact ((hu0.out.below (by assumption)).below (by assumption)).below ((Below.refl _ _).alloc (Nat.le_refl _) _) | exact (((hu0.out.below (by assumption)).below (by assumption)).below (by assumption)).below ((Below.refl _ _).alloc (Nat.le_refl _) _)), (by first | exact hu1.out.below ((Below.refl _ _).alloc (Nat.le_refl _) _) | exact (hu1.out.below (by assumption)).below ((Below.refl _ _).alloc (Nat.le_refl _) _) | exact ((hu1.out.below (by assumption)).below (by assumption)).below ((Below.refl _ _).alloc (Nat.le_refl _) _) | exact (((hu1.out.below (by assumption)).below (by assumption)).below (by assumption)).below ((Below.refl _ _).alloc (Nat.le_refl _) _))⟩, by assumption⟩
      · have HM1 := Lib.hid (HS1.out hn1)
        have H1N := Lib.hid hn1
        clear hn1
        go_enter Tryz.func7, Tryz.ntmps7
        go_wp2_with fail
        go_region_held3 (fun w' => w'.cell? ⟨w.heap.size, 0, none⟩ = some (.int .i64 k) ∧ w'.cell? ⟨w.heap.size, 1, none⟩ = some (.int .i64 op) ∧ w'.cell? ⟨w.heap.size, 2, none⟩ = some (.int .i64 h) ∧ w'.cell? ⟨w.heap.size, 3, none⟩ = some (.int .i64 n) ∧ w'.cell? ⟨w.heap.size, 4, none⟩ = some (.string t) ∧ w'.cell? ⟨w.heap.size, 5, none⟩ = some (.slice p m cap) ∧ Below w.heap.size w w')
      (first
        | exact ⟨by simp, by simp, by simp, by simp, by simp, by simp, HD.out⟩
        | (go_split_ands; refine ⟨(hb.cell (p := ⟨w.heap.size, 0, none⟩) (cell_lt (by assumption))).trans (by assumption), (hb.cell (p := ⟨w.heap.size, 1, none⟩) (cell_lt (by assumption))).trans (by assumption), (hb.cell (p := ⟨w.heap.size, 2, none⟩) (cell_lt (by assumption))).trans (by assumption), (hb.cell (p := ⟨w.heap.size, 3, none⟩) (cell_lt (by assumption))).trans (by assumption), (hb.cell (p := ⟨w.heap.size, 4, none⟩) (cell_lt (by assumption))).trans (by assumption), (hb.cell (p := ⟨w.heap.size, 5, none⟩) (cell_lt (by assumption))).trans (by assumption), bnext (by assumption) hb⟩)
        | (go_split_ands; (repeat' apply And.intro) <;> (first | exact below_alloc (by assumption) _ | go_keep))
        | go_keep)
      (first | (go_at_call 21; with_reducible refine (HI0.out _ (by first | assumption | (go_split_ands; assumption))).mono ?_; rintro r w' ⟨x0, rfl, hb, hx0⟩) | (go_at_call 21; with_reducible refine (HI1.out _ (by first | assumption | (go_split_ands; assumption))).mono ?_; rintro r w' ⟨x1, rfl, hb, hx1⟩) | (go_at_call 7; with_reducible refine (HM0.out _ _ (by first | exact hx0.out | exact DV.below (by assumption) hx0.out | exact DV.below (by assumption) (DV.below (by assumption) hx0.out))).mono ?_; rintro r w' ⟨ti0, pi0, rfl, hb, hu0⟩) | (go_at_call 7; with_reducible refine (HM1.out _ _ (by first | exact hx1.out | exact DV.below (by assumption) hx1.out | exact DV.below (by assumption) (DV.below (by assumption) hx1.out))).mono ?_; rintro r w' ⟨ti1, pi1, rfl, hb, hu1⟩))
        all_goals
          go_split_ands
          go_wp2_with fail
          go_ret
          exact ⟨_, rfl, ⟨_, .iface ti0 pi0, .iface ti1 pi1, rfl, by simp, by simp, by simp, (by first | exact hu0.out.below ((Below.refl _ _).alloc (Nat.le_refl _) _) | exact (hu0.out.below (by assumption)).below ((Below.refl _ _).alloc (Nat.le_refl _) _) | exact ((hu0.out.below (by assumption)).below (by assumption)).below ((Below.refl _ _).alloc (Nat.le_refl _) _) | exact (((hu0.out.below (by assumption)).below (by assumption)).below (by assumption)).below ((Below.refl _ _).alloc (Nat.le_refl _) _)), (by first | exact hu1.out.below ((Below.refl _ _).alloc (Nat.le_refl _) _) | exact (hu1.out.below (by assumption)).below ((Below.refl _ _).alloc (Nat.le_refl _) _) | exact ((hu1.out.below (by assumption)).below (by assumption)).below ((Below.refl _ _).alloc (Nat.le_refl _) _) | exact (((hu1.out.below (by assumption)).below (by assumption)).below (by assumption)).below ((Below.refl _ _).alloc (Nat.le_refl _) _))⟩, by assumption⟩
  rw [if_neg k4]
  have q4 := kne k4
  clear k4
  by_cases k5 : k = 5
  · rw [if_pos k5]
    have q5 := keq k5
    clear k5
    go_enter Tryz.func7, Tryz.ntmps7
    go_wp2_with fail
    go_ret
    exact ⟨_, rfl, rfl, HB.out⟩
  rw [if_neg k5]
  have q5 := kne k5
  clear k5
  by_cases k6 : k = 6
  · rw [if_pos k6]
    have q6 := keq k6
    clear k6
    go_enter Tryz.func7, Tryz.ntmps7
    go_wp2_with fail
    go_ret
    exact ⟨_, rfl, rfl, HB.out⟩
  rw [if_neg k6]
  have q6 := kne k6
  clear k6
  by_cases k7 : k = 7
  · rw [if_pos k7]
    have q7 := keq k7
    clear k7
    go_enter Tryz.func7, Tryz.ntmps7
    go_wp2_with fail
    go_ret
    exact ⟨_, rfl, rfl, HB.out⟩
  rw [if_neg k7]
  have q7 := kne k7
  clear k7
  by_cases k8 : k = 8
  · rw [if_pos k8]
    have q8 := keq k8
    clear k8
    go_enter Tryz.func7, Tryz.ntmps7
    go_wp2_with fail
    go_ret
    exact ⟨_, rfl, rfl, HB.out⟩
  rw [if_neg k8]
  have q8 := kne k8
  clear k8
  go_enter Tryz.func7, Tryz.ntmps7
  go_wp2_with fail
  go_ret
  exact ⟨_, rfl, rfl, HB.out⟩
theorem made_any : ∀ (d : Dt) (v : Value) (w : World), DV w d v → Calls Tryz.prog 7 #[v] w (MadeP w d) := by
  intro d
  have hnil : ∀ (v : Value) (w : World), DV w .nil v → Calls Tryz.prog 7 #[v] w (MadeP w .nil) := by
    intro v w hv
    cases hv
    go_enter Tryz.func7, Tryz.ntmps7
    go_wp2_with fail
    go_ret
    exact ⟨_, rfl, rfl, (by repeat (first | exact Below.refl _ _ | (with_reducible assumption) | refine Below.drew ?_ | (refine Below.alloc ?_ (by first | exact Nat.le_refl _ | omega | (simp; done) | (simp; omega)) _) | (refine Below.setCell ?_ (by first | omega | (simp; done) | (simp; omega)) _)))⟩
  induction d with
  | nil => exact hnil
  | mk k op h n t m a b iha ihb =>
    refine made_gen _ ?_ ?_
    · rw [Dt.kid0_mk]
      by_cases hm : 0 < m
      · rw [if_pos hm]; exact iha
      · rw [if_neg hm]; exact hnil
    · rw [Dt.kid1_mk]
      by_cases hm : 1 < m
      · rw [if_pos hm]; exact ihb
      · rw [if_neg hm]; exact hnil
end Go.Proofs.YtlnamkplbikcjaaGreatDoor
