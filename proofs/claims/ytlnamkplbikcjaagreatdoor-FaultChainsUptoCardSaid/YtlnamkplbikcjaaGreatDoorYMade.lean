/- The program's Wrap, Line, inner; no condition. -/
import Derived.Test.YtlnamkplbikcjaaGreatDoorYTold
namespace Go.Proofs.YtlnamkplbikcjaaGreatDoor
open Go.RowKit Ft

theorem wrap_nil (op h : Int) (w : World) : Calls Tryz.prog 16 #[.int .i64 op, .int .i64 h, .nilIface] w fun r w' => r = .returned .nilIface ∧ w' = w := by
  go_enter Tryz.func16, Tryz.ntmps16
  go_wp2_with fail
  go_ret
  exact ⟨rfl, rfl⟩
theorem wrap_any (op h : Int) (e : Er) (hn : e ≠ .nil) (N : Nat) (v : Value) (w : World) (hN : N ≤ w.heap.size) (hv : EV N w e v) :
    Calls Tryz.prog 16 #[.int .i64 op, .int .i64 h, v] w fun r w' => ∃ u, r = .returned u ∧ EV (w.heap.size + 1) w' (.fault op h e) u ∧ Below w.heap.size w w' ∧ w.heap.size < w'.heap.size := by
  have HV := Lib.hid hv
  obtain ⟨ti, pi, rfl⟩ := hv.iface hn
  clear hv hn
  go_enter Tryz.func16, Tryz.ntmps16
  go_wp2_with fail
  go_ret
  have hb : Below w.heap.size w (w.alloc (.cells #[.int .i64 op, .int .i64 h, .iface ti pi] 49)) := (by repeat (first | exact Below.refl _ _ | (with_reducible assumption) | refine Below.drew ?_ | (refine Below.alloc ?_ (by first | exact Nat.le_refl _ | omega | (simp; done) | (simp; omega)) _) | (refine Below.setCell ?_ (by first | omega | (simp; done) | (simp; omega)) _)))
  exact ⟨_, rfl, ⟨w.heap.size, _, rfl, by omega, by simp, by simp, by simp, (HV.out.keep (hb.mono hN)).up (by omega)⟩, hb, by simp⟩
theorem line_nil (n : Int) (w : World) : Calls Tryz.prog 15 #[.int .i64 n, .nilIface] w fun r w' => r = .returned .nilIface ∧ w' = w := by
  go_enter Tryz.func15, Tryz.ntmps15
  go_wp2_with fail
  go_ret
  exact ⟨rfl, rfl⟩
theorem line_any (n : Int) (e : Er) (hn : e ≠ .nil) (N : Nat) (v : Value) (w : World) (hN : N ≤ w.heap.size) (hv : EV N w e v) :
    Calls Tryz.prog 15 #[.int .i64 n, v] w fun r w' => ∃ u, r = .returned u ∧ EV (w.heap.size + 1) w' (.place n e) u ∧ Below w.heap.size w w' ∧ w.heap.size < w'.heap.size := by
  have HV := Lib.hid hv
  obtain ⟨ti, pi, rfl⟩ := hv.iface hn
  clear hv hn
  go_enter Tryz.func15, Tryz.ntmps15
  go_wp2_with fail
  go_ret
  have hb : Below w.heap.size w (w.alloc (.cells #[.int .i64 n, .iface ti pi] 52)) := (by repeat (first | exact Below.refl _ _ | (with_reducible assumption) | refine Below.drew ?_ | (refine Below.alloc ?_ (by first | exact Nat.le_refl _ | omega | (simp; done) | (simp; omega)) _) | (refine Below.setCell ?_ (by first | omega | (simp; done) | (simp; omega)) _)))
  exact ⟨_, rfl, ⟨w.heap.size, _, rfl, by omega, by simp, by simp, (HV.out.keep (hb.mono hN)).up (by omega)⟩, hb, by simp⟩

theorem idle_inner (w : World) : CallsD Tryz.prog 47 #[] .returning w fun e u' w' => e = .returned (.tuple #[]) ∧ u' = .returning ∧ w' = w := by
  refine callsD_of_wpS Tryz.func47 rfl fun c₀ cs hu => ?_
  first | apply wpS_seq | skip
  apply wpS_region
  simp [wpOpsS, go_sem, recoverD, hu, Tryz.ntmps47]
  cases c₀
  simp_all [bodyPostS, results, Tryz.results47]
/-- What errors.Unwrap gives. -/
def InPost (N : Nat) (w : World) (e : Er) (r : Ending) (w' : World) : Prop := w' = w ∧ ∃ u, r = .returned u ∧ EV N w e.inner u
set_option maxHeartbeats 1000000 in
theorem unwrap_any (e : Er) (hn : e ≠ .nil) (N : Nat) (v : Value) (w : World) (hv : EV N w e v) : Calls Tryz.prog 48 #[v] w (InPost N w e) := by
  have HV := Lib.hid hv
  cases e with
  | nil => exact absurd rfl hn
  | num n =>
    cases hv
    have t1 := ta_num_un n
    go_enter Tryz.func48, Tryz.ntmps48
    go_wp2_with fail
    go_ret
    exact ⟨rfl, _, rfl, rfl⟩
  | odd s =>
    cases hv
    have t1 := ta_odd_un s
    go_enter Tryz.func48, Tryz.ntmps48
    go_wp2_with fail
    go_ret
    exact ⟨rfl, _, rfl, rfl⟩
  | nQ =>
    cases hv
    have t1 := ta_par_un none
    go_enter Tryz.func48, Tryz.ntmps48
    go_wp2_with fail
    go_ret
    exact ⟨rfl, _, rfl, rfl⟩
  | pair a c =>
    obtain ⟨b, x, y, rfl, _⟩ := hv
    have t1 := ta_par_un (some ⟨b, 0, none⟩)
    go_enter Tryz.func48, Tryz.ntmps48
    go_wp2_with fail
    go_ret
    exact ⟨rfl, _, rfl, rfl⟩
  | nF =>
    cases hv
    have t1 := ta_flt_un none
    have mu := mu_flt none
    go_enter Tryz.func48, Tryz.ntmps48
    go_wp2_with fail
    refine (un_fltn _).mono ?_
    rintro r w1 ⟨rfl, rfl⟩
    go_wp2_with fail
    go_ret
    exact ⟨rfl, _, rfl, rfl⟩
  | nP =>
    cases hv
    have t1 := ta_plc_un none
    have mu := mu_plc none
    go_enter Tryz.func48, Tryz.ntmps48
    go_wp2_with fail
    refine (un_plcn _).mono ?_
    rintro r w1 ⟨rfl, rfl⟩
    go_wp2_with fail
    go_ret
    exact ⟨rfl, _, rfl, rfl⟩
  | fault op h e2 =>
    obtain ⟨b, x, rfl, hl, c0, c1, c2, hx⟩ := hv
    have t1 := ta_flt_un (some ⟨b, 0, none⟩)
    have mu := mu_flt (some ⟨b, 0, none⟩)
    have HU := Lib.hid (un_flt b x w c2)
    have HX := Lib.hid hx
    clear hx hn
    go_enter Tryz.func48, Tryz.ntmps48
    go_wp2_with fail
    refine HU.out.mono ?_
    rintro r w1 ⟨rfl, rfl⟩
    go_wp2_with fail
    go_ret
    exact ⟨rfl, _, rfl, HX.out⟩
  | place n e2 =>
    obtain ⟨b, x, rfl, hl, c0, c1, hx⟩ := hv
    have t1 := ta_plc_un (some ⟨b, 0, none⟩)
    have mu := mu_plc (some ⟨b, 0, none⟩)
    have HU := Lib.hid (un_plc b x w c1)
    have HX := Lib.hid hx
    clear hx hn
    go_enter Tryz.func48, Tryz.ntmps48
    go_wp2_with fail
    refine HU.out.mono ?_
    rintro r w1 ⟨rfl, rfl⟩
    go_wp2_with fail
    go_ret
    exact ⟨rfl, _, rfl, HX.out⟩
set_option maxHeartbeats 1000000 in
theorem inner_any (e : Er) (hn : e ≠ .nil) (N : Nat) (v : Value) (w : World) (hv : EV N w e v) : Calls Tryz.prog 31 #[v] w (InPost N w e) := by
  have HU := Lib.hid (unwrap_any e hn N v w hv)
  clear hv hn
  go_enter_defers Tryz.func31, Tryz.ntmps31
  go_wp2_with fail
  refine HU.out.mono ?_
  rintro r w1 ⟨rfl, u, rfl, hu⟩
  go_wp2_with fail
  refine leaves_cons (f := 47) (args := #[]) (by simp) (by simp [go_sem]) ?_
  refine (idle_inner _).mono ?_
  rintro r u' w'' ⟨rfl, rfl, rfl⟩
  simp [Leaves, settle, results, Tryz.results31, go_sem]
  exact ⟨rfl, u, rfl, hu⟩
end Go.Proofs.YtlnamkplbikcjaaGreatDoor
