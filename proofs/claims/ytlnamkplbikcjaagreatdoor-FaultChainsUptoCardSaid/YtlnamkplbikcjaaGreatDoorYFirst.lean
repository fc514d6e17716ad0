/- The program's Why, Where, What, LineOf at every error: the number, the operation, the handle, the line of the first of its kind; no condition but what errors.errorType holds. -/
import Derived.Test.YtlnamkplbikcjaaGreatDoorYOwn
import Derived.Test.YtlnamkplbikcjaaGreatDoorYAsN
import Derived.Test.YtlnamkplbikcjaaGreatDoorYAsF
import Derived.Test.YtlnamkplbikcjaaGreatDoorYAsP
namespace Go.Proofs.YtlnamkplbikcjaaGreatDoor
open Go.RowKit Ft

/-! What is found is of its kind. -/
theorem fnd_num : ∀ {e e1 : Er}, e.fnd .num = some e1 → ∃ n, e1 = .num n := by
  intro e
  induction e with
  | num n => intro e1 h; simp [Er.fnd] at h; exact ⟨n, h.symm⟩
  | fault op hh e ih => intro e1 h; exact ih (by simpa [Er.fnd] using h)
  | place n e ih => intro e1 h; exact ih (by simpa [Er.fnd] using h)
  | pair a b iha ihb =>
    intro e1 h
    unfold Er.fnd at h
    cases ha : a.fnd .num with
    | some x => rw [ha] at h; exact iha (by rw [ha]; simpa using h)
    | none => rw [ha] at h; exact ihb h
  | _ => intro e1 h; simp [Er.fnd] at h
theorem fnd_flt : ∀ {e e1 : Er}, e.fnd .flt = some e1 → e1 = .nF ∨ ∃ op h e2, e1 = .fault op h e2 := by
  intro e
  induction e with
  | fault op hh e ih => intro e1 h; simp [Er.fnd] at h; exact .inr ⟨_, _, _, h.symm⟩
  | nF => intro e1 h; simp [Er.fnd] at h; exact .inl h.symm
  | place n e ih => intro e1 h; exact ih (by simpa [Er.fnd] using h)
  | pair a b iha ihb =>
    intro e1 h
    unfold Er.fnd at h
    cases ha : a.fnd .flt with
    | some x => rw [ha] at h; exact iha (by rw [ha]; simpa using h)
    | none => rw [ha] at h; exact ihb h
  | _ => intro e1 h; simp [Er.fnd] at h
theorem fnd_plc : ∀ {e e1 : Er}, e.fnd .plc = some e1 → e1 = .nP ∨ ∃ n e2, e1 = .place n e2 := by
  intro e
  induction e with
  | place n e ih => intro e1 h; simp [Er.fnd] at h; exact .inr ⟨_, _, h.symm⟩
  | nP => intro e1 h; simp [Er.fnd] at h; exact .inl h.symm
  | fault op hh e ih => intro e1 h; exact ih (by simpa [Er.fnd] using h)
  | pair a b iha ihb =>
    intro e1 h
    unfold Er.fnd at h
    cases ha : a.fnd .plc with
    | some x => rw [ha] at h; exact iha (by rw [ha]; simpa using h)
    | none => rw [ha] at h; exact ihb h
  | _ => intro e1 h; simp [Er.fnd] at h


theorem idle_N (w : World) : CallsD Tryz.prog 52 #[] .returning w fun e u' w' => e = .returned (.tuple #[]) ∧ u' = .returning ∧ w' = w := by
  refine callsD_of_wpS Tryz.func52 rfl fun c₀ cs hu => ?_
  first | apply wpS_seq | skip
  apply wpS_region
  simp [wpOpsS, go_sem, recoverD, hu, Tryz.ntmps52]
  cases c₀
  simp_all [bodyPostS, results, Tryz.results52]
/-- What is found. -/
def FPostN (N : Nat) (w : World) (e : Er) (r : Ending) (w' : World) : Prop := Below w.heap.size w w' ∧ match e.fnd .num with
  | none => r = .returned (.int .i64 0)
  | some e1 => ∃ u, r = .returned u ∧ EV N w' e1 (.iface 39 u)
set_option maxHeartbeats 1000000 in
theorem firstN_any (e : Er) (N : Nat) (v : Value) (w : World) (hN : N ≤ w.heap.size) (hg : LaidAt w) (hv : EV N w e v) :
    Calls Tryz.prog 35 #[v] w (FPostN N w e) := by
  obtain ⟨w1, hw1⟩ : ∃ w1, w1 = w.alloc (.cells #[.int .i64 0] 39) := ⟨_, rfl⟩
  have hb1 : Below w.heap.size w w1 := by rw [hw1]; exact (by repeat (first | exact Below.refl _ _ | (with_reducible assumption) | refine Below.drew ?_ | (refine Below.alloc ?_ (by first | exact Nat.le_refl _ | omega | (simp; done) | (simp; omega)) _) | (refine Below.setCell ?_ (by first | omega | (simp; done) | (simp; omega)) _)))
  have HA := Lib.hid (AsN_all e N v (.int .i64 0) w1 ⟨w.heap.size, 0, none⟩ (by have := hb1.size; omega) (hg.below hb1) (hv.keep (hb1.mono hN)) (by rw [hw1]; simp) (by rw [hw1]; simp))
  have HB := Lib.hid hb1
  have hlt : w.heap.size < w1.heap.size := by rw [hw1]; simp
  have HL := Lib.hid hlt
  have HC := Lib.hid (show w1.cell? ⟨w.heap.size, 0, none⟩ = some (.int .i64 0) by rw [hw1]; simp)
  have HW := Lib.hid hw1
  clear hg hv hb1 hlt hw1
  go_enter_defers Tryz.func35, Tryz.ntmps35
  go_wp2_with fail
  rw [← HW.out]
  refine HA.out.mono ?_
  intro r w' h
  unfold AsPostN at h
  cases hf : e.fnd .num with
  | none =>
    rw [hf] at h
    obtain ⟨rfl, hb⟩ := h
    have HF := Lib.hid hf
    clear hf
    go_wp2_with fail
    refine leaves_cons (f := 52) (args := #[]) (by simp) (by simp [go_sem]) ?_
    refine (idle_N _).mono ?_
    rintro e u' w'' ⟨rfl, rfl, rfl⟩
    simp [Leaves, settle, results, Tryz.results35, go_sem]
    exact ⟨bnext HB.out hb, by rw [HF.out]⟩
  | some e1 =>
    rw [hf] at h
    obtain ⟨rfl, u, W, hev, hb, rfl⟩ := h
    have HF := Lib.hid hf
    have hlt2 : w.heap.size < W.heap.size := by have := HL.out; have := hb.size; omega
    have hoc : (W.setCell ⟨w.heap.size, 0, none⟩ u).cell? ⟨w.heap.size, 0, none⟩ = some u := World.cell?_setCell_same _ _ _ ((hb.cell (p := ⟨w.heap.size, 0, none⟩) HL.out).trans HC.out)
    have hbw : Below w.heap.size w (W.setCell ⟨w.heap.size, 0, none⟩ u) := (bnext HB.out hb).setCell (p := ⟨w.heap.size, 0, none⟩) (Nat.le_refl _) _
    have hev2 : EV N (W.setCell ⟨w.heap.size, 0, none⟩ u) e1 (.iface 39 u) := hev.keep ((Below.refl N W).setCell (p := ⟨w.heap.size, 0, none⟩) hN _)
    have HBW := Lib.hid hbw
    have HEV := Lib.hid hev2
    clear hf hb hev hbw hev2
    generalize W.setCell ⟨w.heap.size, 0, none⟩ u = W2 at *
    go_wp2_with fail
    refine leaves_cons (f := 52) (args := #[]) (by simp) (by simp [go_sem]) ?_
    refine (idle_N _).mono ?_
    rintro e u' w'' ⟨rfl, rfl, rfl⟩
    simp [Leaves, settle, results, Tryz.results35, go_sem]
    exact ⟨HBW.out, by rw [HF.out]; exact ⟨u, rfl, HEV.out⟩⟩

theorem idle_F (w : World) : CallsD Tryz.prog 51 #[] .returning w fun e u' w' => e = .returned (.tuple #[]) ∧ u' = .returning ∧ w' = w := by
  refine callsD_of_wpS Tryz.func51 rfl fun c₀ cs hu => ?_
  first | apply wpS_seq | skip
  apply wpS_region
  simp [wpOpsS, go_sem, recoverD, hu, Tryz.ntmps51]
  cases c₀
  simp_all [bodyPostS, results, Tryz.results51]
/-- What is found. -/
def FPostF (N : Nat) (w : World) (e : Er) (r : Ending) (w' : World) : Prop := Below w.heap.size w w' ∧ match e.fnd .flt with
  | none => r = .returned (.pointer none)
  | some e1 => ∃ u, r = .returned u ∧ EV N w' e1 (.iface 46 u)
set_option maxHeartbeats 1000000 in
theorem firstF_any (e : Er) (N : Nat) (v : Value) (w : World) (hN : N ≤ w.heap.size) (hg : LaidAt w) (hv : EV N w e v) :
    Calls Tryz.prog 34 #[v] w (FPostF N w e) := by
  obtain ⟨w1, hw1⟩ : ∃ w1, w1 = w.alloc (.cells #[.pointer none] 46) := ⟨_, rfl⟩
  have hb1 : Below w.heap.size w w1 := by rw [hw1]; exact (by repeat (first | exact Below.refl _ _ | (with_reducible assumption) | refine Below.drew ?_ | (refine Below.alloc ?_ (by first | exact Nat.le_refl _ | omega | (simp; done) | (simp; omega)) _) | (refine Below.setCell ?_ (by first | omega | (simp; done) | (simp; omega)) _)))
  have HA := Lib.hid (AsF_all e N v (.pointer none) w1 ⟨w.heap.size, 0, none⟩ (by have := hb1.size; omega) (hg.below hb1) (hv.keep (hb1.mono hN)) (by rw [hw1]; simp) (by rw [hw1]; simp))
  have HB := Lib.hid hb1
  have hlt : w.heap.size < w1.heap.size := by rw [hw1]; simp
  have HL := Lib.hid hlt
  have HC := Lib.hid (show w1.cell? ⟨w.heap.size, 0, none⟩ = some (.pointer none) by rw [hw1]; simp)
  have HW := Lib.hid hw1
  clear hg hv hb1 hlt hw1
  go_enter_defers Tryz.func34, Tryz.ntmps34
  go_wp2_with fail
  rw [← HW.out]
  refine HA.out.mono ?_
  intro r w' h
  unfold AsPostF at h
  cases hf : e.fnd .flt with
  | none =>
    rw [hf] at h
    obtain ⟨rfl, hb⟩ := h
    have HF := Lib.hid hf
    clear hf
    go_wp2_with fail
    refine leaves_cons (f := 51) (args := #[]) (by simp) (by simp [go_sem]) ?_
    refine (idle_F _).mono ?_
    rintro e u' w'' ⟨rfl, rfl, rfl⟩
    simp [Leaves, settle, results, Tryz.results34, go_sem]
    exact ⟨bnext HB.out hb, by rw [HF.out]⟩
  | some e1 =>
    rw [hf] at h
    obtain ⟨rfl, u, W, hev, hb, rfl⟩ := h
    have HF := Lib.hid hf
    have hlt2 : w.heap.size < W.heap.size := by have := HL.out; have := hb.size; omega
    have hoc : (W.setCell ⟨w.heap.size, 0, none⟩ u).cell? ⟨w.heap.size, 0, none⟩ = some u := World.cell?_setCell_same _ _ _ ((hb.cell (p := ⟨w.heap.size, 0, none⟩) HL.out).trans HC.out)
    have hbw : Below w.heap.size w (W.setCell ⟨w.heap.size, 0, none⟩ u) := (bnext HB.out hb).setCell (p := ⟨w.heap.size, 0, none⟩) (Nat.le_refl _) _
    have hev2 : EV N (W.setCell ⟨w.heap.size, 0, none⟩ u) e1 (.iface 46 u) := hev.keep ((Below.refl N W).setCell (p := ⟨w.heap.size, 0, none⟩) hN _)
    have HBW := Lib.hid hbw
    have HEV := Lib.hid hev2
    clear hf hb hev hbw hev2
    generalize W.setCell ⟨w.heap.size, 0, none⟩ u = W2 at *
    go_wp2_with fail
    refine leaves_cons (f := 51) (args := #[]) (by simp) (by simp [go_sem]) ?_
    refine (idle_F _).mono ?_
    rintro e u' w'' ⟨rfl, rfl, rfl⟩
    simp [Leaves, settle, results, Tryz.results34, go_sem]
    exact ⟨HBW.out, by rw [HF.out]; exact ⟨u, rfl, HEV.out⟩⟩

theorem idle_P (w : World) : CallsD Tryz.prog 49 #[] .returning w fun e u' w' => e = .returned (.tuple #[]) ∧ u' = .returning ∧ w' = w := by
  refine callsD_of_wpS Tryz.func49 rfl fun c₀ cs hu => ?_
  first | apply wpS_seq | skip
  apply wpS_region
  simp [wpOpsS, go_sem, recoverD, hu, Tryz.ntmps49]
  cases c₀
  simp_all [bodyPostS, results, Tryz.results49]
/-- What is found. -/
def FPostP (N : Nat) (w : World) (e : Er) (r : Ending) (w' : World) : Prop := Below w.heap.size w w' ∧ match e.fnd .plc with
  | none => r = .returned (.pointer none)
  | some e1 => ∃ u, r = .returned u ∧ EV N w' e1 (.iface 50 u)
set_option maxHeartbeats 1000000 in
theorem firstP_any (e : Er) (N : Nat) (v : Value) (w : World) (hN : N ≤ w.heap.size) (hg : LaidAt w) (hv : EV N w e v) :
    Calls Tryz.prog 33 #[v] w (FPostP N w e) := by
  obtain ⟨w1, hw1⟩ : ∃ w1, w1 = w.alloc (.cells #[.pointer none] 50) := ⟨_, rfl⟩
  have hb1 : Below w.heap.size w w1 := by rw [hw1]; exact (by repeat (first | exact Below.refl _ _ | (with_reducible assumption) | refine Below.drew ?_ | (refine Below.alloc ?_ (by first | exact Nat.le_refl _ | omega | (simp; done) | (simp; omega)) _) | (refine Below.setCell ?_ (by first | omega | (simp; done) | (simp; omega)) _)))
  have HA := Lib.hid (AsP_all e N v (.pointer none) w1 ⟨w.heap.size, 0, none⟩ (by have := hb1.size; omega) (hg.below hb1) (hv.keep (hb1.mono hN)) (by rw [hw1]; simp) (by rw [hw1]; simp))
  have HB := Lib.hid hb1
  have hlt : w.heap.size < w1.heap.size := by rw [hw1]; simp
  have HL := Lib.hid hlt
  have HC := Lib.hid (show w1.cell? ⟨w.heap.size, 0, none⟩ = some (.pointer none) by rw [hw1]; simp)
  have HW := Lib.hid hw1
  clear hg hv hb1 hlt hw1
  go_enter_defers Tryz.func33, Tryz.ntmps33
  go_wp2_with fail
  rw [← HW.out]
  refine HA.out.mono ?_
  intro r w' h
  unfold AsPostP at h
  cases hf : e.fnd .plc with
  | none =>
    rw [hf] at h
    obtain ⟨rfl, hb⟩ := h
    have HF := Lib.hid hf
    clear hf
    go_wp2_with fail
    refine leaves_cons (f := 49) (args := #[]) (by simp) (by simp [go_sem]) ?_
    refine (idle_P _).mono ?_
    rintro e u' w'' ⟨rfl, rfl, rfl⟩
    simp [Leaves, settle, results, Tryz.results33, go_sem]
    exact ⟨bnext HB.out hb, by rw [HF.out]⟩
  | some e1 =>
    rw [hf] at h
    obtain ⟨rfl, u, W, hev, hb, rfl⟩ := h
    have HF := Lib.hid hf
    have hlt2 : w.heap.size < W.heap.size := by have := HL.out; have := hb.size; omega
    have hoc : (W.setCell ⟨w.heap.size, 0, none⟩ u).cell? ⟨w.heap.size, 0, none⟩ = some u := World.cell?_setCell_same _ _ _ ((hb.cell (p := ⟨w.heap.size, 0, none⟩) HL.out).trans HC.out)
    have hbw : Below w.heap.size w (W.setCell ⟨w.heap.size, 0, none⟩ u) := (bnext HB.out hb).setCell (p := ⟨w.heap.size, 0, none⟩) (Nat.le_refl _) _
    have hev2 : EV N (W.setCell ⟨w.heap.size, 0, none⟩ u) e1 (.iface 50 u) := hev.keep ((Below.refl N W).setCell (p := ⟨w.heap.size, 0, none⟩) hN _)
    have HBW := Lib.hid hbw
    have HEV := Lib.hid hev2
    clear hf hb hev hbw hev2
    generalize W.setCell ⟨w.heap.size, 0, none⟩ u = W2 at *
    go_wp2_with fail
    refine leaves_cons (f := 49) (args := #[]) (by simp) (by simp [go_sem]) ?_
    refine (idle_P _).mono ?_
    rintro e u' w'' ⟨rfl, rfl, rfl⟩
    simp [Leaves, settle, results, Tryz.results33, go_sem]
    exact ⟨HBW.out, by rw [HF.out]; exact ⟨u, rfl, HEV.out⟩⟩
end Go.Proofs.YtlnamkplbikcjaaGreatDoor
