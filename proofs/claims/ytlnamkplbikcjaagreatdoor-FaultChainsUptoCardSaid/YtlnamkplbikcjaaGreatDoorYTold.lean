/- The program's Why, Where, What, LineOf, Say, every Error, what an error says of itself, what it wraps; no condition but that a text is at most 2^47 bytes, and what the rows' listed variables hold. -/
import Derived.Test.YtlnamkplbikcjaaGreatDoorYFirst
import Derived.Test.YtlnamkplbikcjaaGreatDoorYWriteF
import Derived.Test.YtlnamkplbikcjaaGreatDoorYWriteT
namespace Go.Proofs.YtlnamkplbikcjaaGreatDoor
open Go.RowKit Ft

theorem why_any (e : Er) (N : Nat) (v : Value) (w : World) (hN : N ≤ w.heap.size) (hg : LaidAt w) (hv : EV N w e v) :
    Calls Tryz.prog 19 #[v] w fun r w' => r = .returned (.int .i64 e.why) ∧ Below w.heap.size w w' := by
  have HF := Lib.hid (show Calls Tryz.prog 35 #[v] w fun r w' => r = .returned (.int .i64 e.why) ∧ Below w.heap.size w w' from (firstN_any e N v w hN hg hv).mono (by
    intro r w' h
    obtain ⟨hb, h⟩ := h
    unfold Er.why
    cases hf : e.fnd .num with
    | none => rw [hf] at h; exact ⟨h, hb⟩
    | some e1 =>
      rw [hf] at h
      obtain ⟨u, rfl, hev⟩ := h
      obtain ⟨n, rfl⟩ := fnd_num hf
      cases hev
      exact ⟨rfl, hb⟩))
  clear hg hv
  go_enter Tryz.func19, Tryz.ntmps19
  go_wp2_with fail
  refine HF.out.mono ?_
  rintro r w1 ⟨rfl, hb⟩
  go_wp2_with fail
  go_ret
  exact ⟨rfl, hb⟩

set_option maxHeartbeats 1000000 in
theorem Where_any (e : Er) (N : Nat) (v : Value) (w : World) (hN : N ≤ w.heap.size) (hg : LaidAt w) (hv : EV N w e v) :
    Calls Tryz.prog 18 #[v] w fun r w' => r = .returned (.tuple #[.int .i64 (((e.at').map (·.2)).getD 0), .bool ((e.at').map (·.2)).isSome]) ∧ Below w.heap.size w w' := by
  have HF := Lib.hid (firstF_any e N v w hN hg hv)
  clear hg hv
  go_enter Tryz.func18, Tryz.ntmps18
  go_wp2_with fail
  refine HF.out.mono ?_
  intro r w' h
  obtain ⟨hb, h⟩ := h
  cases hf : e.fnd .flt with
  | none =>
    rw [hf] at h
    subst h
    have HE := Lib.hid (show e.at' = none by unfold Er.at'; rw [hf])
    clear hf
    have HB := Lib.hid hb
    clear hb
    go_wp2_with fail
    go_ret2
    exact ⟨by rw [HE.out]; rfl, HB.out⟩
  | some e1 =>
    rw [hf] at h
    obtain ⟨u, rfl, hev⟩ := h
    rcases fnd_flt hf with rfl | ⟨op, h, e2, rfl⟩
    · cases hev
      have HE := Lib.hid (show e.at' = none by unfold Er.at'; rw [hf])
      clear hf
      have HB := Lib.hid hb
      clear hb
      go_wp2_with fail
      go_ret2
      exact ⟨by rw [HE.out]; rfl, HB.out⟩
    · obtain ⟨b, x, hu, hkb, y0, y1, y2, hx⟩ := hev
      cases hu
      have HE := Lib.hid (show e.at' = some (op, h) by unfold Er.at'; rw [hf])
      clear hf hx
      have HB := Lib.hid hb
      clear hb
      go_wp2_with fail
      go_ret2
      exact ⟨by rw [HE.out]; rfl, HB.out⟩
set_option maxHeartbeats 1000000 in
theorem LineOf_any (e : Er) (N : Nat) (v : Value) (w : World) (hN : N ≤ w.heap.size) (hg : LaidAt w) (hv : EV N w e v) :
    Calls Tryz.prog 17 #[v] w fun r w' => r = .returned (.tuple #[.int .i64 ((e.line).getD 0), .bool (e.line).isSome]) ∧ Below w.heap.size w w' := by
  have HF := Lib.hid (firstP_any e N v w hN hg hv)
  clear hg hv
  go_enter Tryz.func17, Tryz.ntmps17
  go_wp2_with fail
  refine HF.out.mono ?_
  intro r w' h
  obtain ⟨hb, h⟩ := h
  cases hf : e.fnd .plc with
  | none =>
    rw [hf] at h
    subst h
    have HE := Lib.hid (show e.line = none by unfold Er.line; rw [hf])
    clear hf
    have HB := Lib.hid hb
    clear hb
    go_wp2_with fail
    go_ret2
    exact ⟨by rw [HE.out]; rfl, HB.out⟩
  | some e1 =>
    rw [hf] at h
    obtain ⟨u, rfl, hev⟩ := h
    rcases fnd_plc hf with rfl | ⟨n, e2, rfl⟩
    · cases hev
      have HE := Lib.hid (show e.line = none by unfold Er.line; rw [hf])
      clear hf
      have HB := Lib.hid hb
      clear hb
      go_wp2_with fail
      go_ret2
      exact ⟨by rw [HE.out]; rfl, HB.out⟩
    · obtain ⟨b, x, hu, hkb, y0, y1, hx⟩ := hev
      cases hu
      have HE := Lib.hid (show e.line = some n by unfold Er.line; rw [hf])
      clear hf hx
      have HB := Lib.hid hb
      clear hb
      go_wp2_with fail
      go_ret2
      exact ⟨by rw [HE.out]; rfl, HB.out⟩

/-- The text that each error's own Error tells. -/
theorem err_flt (e : Er) (he : e.ok) (p : Option Addr) (w : World) (hg : LaidAt w) (hv : EV w.heap.size w e (.iface 46 (.pointer p))) (hs : (e.txt false).length ≤ 140737488355328) :
    Calls Tryz.prog 24 #[.pointer p] w fun r w' => r = .returned (.string ⟨(e.txt false).toArray⟩) ∧ Below w.heap.size w w' := by
  have HT := Lib.hid (toldF e he _ w hg hv hs)
  clear hg hv hs
  go_enter Tryz.func24, Tryz.ntmps24
  go_wp2_with fail
  refine HT.out.mono ?_
  rintro r w1 ⟨rfl, hb⟩
  go_wp2_with fail
  go_ret
  exact ⟨rfl, hb⟩
theorem err_plc (e : Er) (he : e.ok) (p : Option Addr) (w : World) (hg : LaidAt w) (hv : EV w.heap.size w e (.iface 50 (.pointer p))) (hs : (e.txt false).length ≤ 140737488355328) :
    Calls Tryz.prog 25 #[.pointer p] w fun r w' => r = .returned (.string ⟨(e.txt false).toArray⟩) ∧ Below w.heap.size w w' := by
  have HT := Lib.hid (toldF e he _ w hg hv hs)
  clear hg hv hs
  go_enter Tryz.func25, Tryz.ntmps25
  go_wp2_with fail
  refine HT.out.mono ?_
  rintro r w1 ⟨rfl, hb⟩
  go_wp2_with fail
  go_ret
  exact ⟨rfl, hb⟩
theorem err_par (e : Er) (he : e.ok) (p : Option Addr) (w : World) (hg : LaidAt w) (hv : EV w.heap.size w e (.iface 53 (.pointer p))) (hs : (e.txt false).length ≤ 140737488355328) :
    Calls Tryz.prog 26 #[.pointer p] w fun r w' => r = .returned (.string ⟨(e.txt false).toArray⟩) ∧ Below w.heap.size w w' := by
  have HT := Lib.hid (toldF e he _ w hg hv hs)
  clear hg hv hs
  go_enter Tryz.func26, Tryz.ntmps26
  go_wp2_with fail
  refine HT.out.mono ?_
  rintro r w1 ⟨rfl, hb⟩
  go_wp2_with fail
  go_ret
  exact ⟨rfl, hb⟩
theorem say_any (e : Er) (he : e.ok) (v : Value) (w : World) (hg : LaidAt w) (hv : EV w.heap.size w e v) (hs : (e.txt true).length ≤ 140737488355328) :
    Calls Tryz.prog 8 #[v] w fun r w' => r = .returned (.string ⟨(e.txt true).toArray⟩) ∧ Below w.heap.size w w' := by
  have HT := Lib.hid (toldT e he _ w hg hv hs)
  clear hg hv hs
  go_enter Tryz.func8, Tryz.ntmps8
  go_wp2_with fail
  refine HT.out.mono ?_
  rintro r w1 ⟨rfl, hb⟩
  go_wp2_with fail
  go_ret
  exact ⟨rfl, hb⟩
/-- What each error's Error tells, however it is called. -/
def ErrT (N : Nat) (w : World) (e : Er) (v : Value) : Prop :=
  (∃ p, v = .iface 46 (.pointer p) ∧ EV N w e v) ∨ (∃ p, v = .iface 50 (.pointer p) ∧ EV N w e v) ∨ (∃ p, v = .iface 53 (.pointer p) ∧ EV N w e v) ∨ (∃ n, v = .iface 39 (.int .i64 n) ∧ e = .num n) ∨ (∃ s, v = .iface 57 (.agg #[.string s]) ∧ e = .odd s)
theorem EV.kinds {N : Nat} {w : World} {e : Er} {v : Value} (h : EV N w e v) (hn : e ≠ .nil) : ErrT N w e v := by
  have h' := h
  cases e with
  | nil => exact absurd rfl hn
  | num n => exact .inr (.inr (.inr (.inl ⟨n, h, rfl⟩)))
  | odd s => exact .inr (.inr (.inr (.inr ⟨s, h, rfl⟩)))
  | nF => exact .inl ⟨_, h, h'⟩
  | nP => exact .inr (.inl ⟨_, h, h'⟩)
  | nQ => exact .inr (.inr (.inl ⟨_, h, h'⟩))
  | fault op hh e => obtain ⟨b, x, hv, _⟩ := h; exact .inl ⟨_, hv, h'⟩
  | place n e => obtain ⟨b, x, hv, _⟩ := h; exact .inr (.inl ⟨_, hv, h'⟩)
  | pair a c => obtain ⟨b, x, y, hv, _⟩ := h; exact .inr (.inr (.inl ⟨_, hv, h'⟩))
set_option maxHeartbeats 1000000 in
set_option maxRecDepth 100000 in
theorem own_any (e : Er) (he : e.ok) (hn : e ≠ .nil) (v : Value) (w : World) (hg : LaidAt w) (hv : EV w.heap.size w e v) (hs : (e.txt false).length ≤ 140737488355328) :
    Calls Tryz.prog 30 #[v] w fun r w' => r = .returned (.string ⟨(e.txt false).toArray⟩) ∧ Below w.heap.size w w' := by
  rcases hv.kinds hn with ⟨p, rfl, hx⟩ | ⟨p, rfl, hx⟩ | ⟨p, rfl, hx⟩ | ⟨n, rfl, rfl⟩ | ⟨s, rfl, rfl⟩
  · have HO := Lib.hid (err_flt e he p w hg hx hs)
    have hm := me_flt p
    clear hg hv hs hx
    go_enter_defers Tryz.func30, Tryz.ntmps30
    go_wp2_with fail
    refine HO.out.mono ?_
    rintro r w1 ⟨rfl, hb⟩
    go_wp2_with fail
    refine leaves_cons (f := 46) (args := #[]) (by simp) (by simp [go_sem]) ?_
    refine (idle_own _).mono ?_
    rintro r u' w'' ⟨rfl, rfl, rfl⟩
    simp [Leaves, settle, results, Tryz.results30, go_sem]
    exact hb
  · have HO := Lib.hid (err_plc e he p w hg hx hs)
    have hm := me_plc p
    clear hg hv hs hx
    go_enter_defers Tryz.func30, Tryz.ntmps30
    go_wp2_with fail
    refine HO.out.mono ?_
    rintro r w1 ⟨rfl, hb⟩
    go_wp2_with fail
    refine leaves_cons (f := 46) (args := #[]) (by simp) (by simp [go_sem]) ?_
    refine (idle_own _).mono ?_
    rintro r u' w'' ⟨rfl, rfl, rfl⟩
    simp [Leaves, settle, results, Tryz.results30, go_sem]
    exact hb
  · have HO := Lib.hid (err_par e he p w hg hx hs)
    have hm := me_par p
    clear hg hv hs hx
    go_enter_defers Tryz.func30, Tryz.ntmps30
    go_wp2_with fail
    refine HO.out.mono ?_
    rintro r w1 ⟨rfl, hb⟩
    go_wp2_with fail
    refine leaves_cons (f := 46) (args := #[]) (by simp) (by simp [go_sem]) ?_
    refine (idle_own _).mono ?_
    rintro r u' w'' ⟨rfl, rfl, rfl⟩
    simp [Leaves, settle, results, Tryz.results30, go_sem]
    exact hb
  · have HO := Lib.hid (errnof n he w hg)
    have hm := me_num n
    clear hg hv hs
    go_enter_defers Tryz.func30, Tryz.ntmps30
    go_wp2_with fail
    refine HO.out.mono ?_
    rintro r w1 ⟨rfl, hb⟩
    go_wp2_with fail
    refine leaves_cons (f := 46) (args := #[]) (by simp) (by simp [go_sem]) ?_
    refine (idle_own _).mono ?_
    rintro r u' w'' ⟨rfl, rfl, rfl⟩
    simp [Leaves, settle, results, Tryz.results30, go_sem]
    exact ⟨rfl, hb⟩
  · refine (own_odd s w).mono ?_
    rintro r w' ⟨rfl, hb⟩
    exact ⟨by simp [Er.txt], hb⟩
theorem ta_nil_flt (w : World) : (Instr.typeAssert .nilIface 29 46 true).run Tryz.prog w = .ok (.tuple #[.pointer none, .bool false]) w := by kernel_rfl
theorem ta_nil_plc (w : World) : (Instr.typeAssert .nilIface 29 50 true).run Tryz.prog w = .ok (.tuple #[.pointer none, .bool false]) w := by kernel_rfl
theorem ta_nil_par (w : World) : (Instr.typeAssert .nilIface 29 53 true).run Tryz.prog w = .ok (.tuple #[.pointer none, .bool false]) w := by kernel_rfl
theorem ta_nil_num (w : World) : (Instr.typeAssert .nilIface 29 39 true).run Tryz.prog w = .ok (.tuple #[.int .i64 0, .bool false]) w := by kernel_rfl
theorem ta_nil_odd (w : World) : (Instr.typeAssert .nilIface 29 57 true).run Tryz.prog w = .ok (.tuple #[.agg #[.string ⟨#[]⟩], .bool false]) w := by kernel_rfl
set_option maxHeartbeats 1000000 in
set_option maxRecDepth 100000 in
theorem tells_any (e : Er) (he : e.ok) (v : Value) (w : World) (hg : LaidAt w) (hv : EV w.heap.size w e v) (hs : (e.txt false).length ≤ 140737488355328) :
    Calls Tryz.prog 9 #[v] w fun r w' => r = .returned (.string ⟨(e.txt false).toArray⟩) ∧ Below w.heap.size w w' := by
  by_cases hn : e = .nil
  · subst hn
    cases hv
    have t0 := ta_nil_flt; have t1 := ta_nil_plc; have t2 := ta_nil_par; have t3 := ta_nil_num; have t4 := ta_nil_odd
    go_enter Tryz.func9, Tryz.ntmps9
    go_wp2_with fail
    go_ret
    exact ⟨rfl, Below.refl _ _⟩
  · rcases hv.kinds hn with ⟨p, rfl, hx⟩ | ⟨p, rfl, hx⟩ | ⟨p, rfl, hx⟩ | ⟨n, rfl, rfl⟩ | ⟨s, rfl, rfl⟩
    · have HO := Lib.hid (err_flt e he p w hg hx hs)
      have t0 := ta_flt_flt
      clear hg hv hs hx hn
      go_enter Tryz.func9, Tryz.ntmps9
      go_wp2_with fail
      refine HO.out.mono ?_
      rintro r w1 ⟨rfl, hb⟩
      go_wp2_with fail
      go_ret
      exact ⟨rfl, hb⟩
    · have HO := Lib.hid (err_plc e he p w hg hx hs)
      have t0 := ta_plc_flt; have t1 := ta_plc_plc
      clear hg hv hs hx hn
      go_enter Tryz.func9, Tryz.ntmps9
      go_wp2_with fail
      refine HO.out.mono ?_
      rintro r w1 ⟨rfl, hb⟩
      go_wp2_with fail
      go_ret
      exact ⟨rfl, hb⟩
    · have HO := Lib.hid (err_par e he p w hg hx hs)
      have t0 := ta_par_flt; have t1 := ta_par_plc; have t2 := ta_par_par
      clear hg hv hs hx hn
      go_enter Tryz.func9, Tryz.ntmps9
      go_wp2_with fail
      refine HO.out.mono ?_
      rintro r w1 ⟨rfl, hb⟩
      go_wp2_with fail
      go_ret
      exact ⟨rfl, hb⟩
    · have HO := Lib.hid (errnof n he w hg)
      have t0 := ta_num_flt; have t1 := ta_num_plc; have t2 := ta_num_par; have t3 := ta_num_num
      clear hg hv hs hn
      go_enter Tryz.func9, Tryz.ntmps9
      go_wp2_with fail
      refine HO.out.mono ?_
      rintro r w1 ⟨rfl, hb⟩
      go_wp2_with fail
      go_ret
      exact ⟨rfl, hb⟩
    · have HO := Lib.hid (fun w => odd_text s w)
      have t0 := ta_odd_flt; have t1 := ta_odd_plc; have t2 := ta_odd_par; have t3 := ta_odd_num; have t4 := ta_odd_odd
      clear hg hv hs hn
      go_enter Tryz.func9, Tryz.ntmps9
      go_wp2_with fail
      refine (HO.out _).mono ?_
      rintro r w1 ⟨rfl, hb⟩
      go_wp2_with fail
      go_ret
      exact ⟨by simp [Er.txt], bnext (by repeat (first | exact Below.refl _ _ | (with_reducible assumption) | refine Below.drew ?_ | (refine Below.alloc ?_ (by first | exact Nat.le_refl _ | omega | (simp; done) | (simp; omega)) _) | (refine Below.setCell ?_ (by first | omega | (simp; done) | (simp; omega)) _))) hb⟩
end Go.Proofs.YtlnamkplbikcjaaGreatDoor
