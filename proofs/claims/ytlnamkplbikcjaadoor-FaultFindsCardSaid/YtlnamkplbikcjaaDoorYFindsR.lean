/- The document's Why, Where, LineOf: what they tell is what the program's tell of the same error; no condition. -/
import Derived.Test.YtlnamkplbikcjaaDoorYFoundW
import Derived.BigQuiet
namespace Go.Proofs.YtlnamkplbikcjaaDoor
open Go.RowKit Ft

theorem below_drews {B : Nat} {w a : World} (h : Below B w a) (k : Nat) : Below B w (a.drewN k) := ⟨h.os, h.tape, h.output, h.size, h.block⟩
namespace Ft
theorem kinds_1 {k : Int} (h : kindsB k 1 = true) : k = 1 := by unfold kindsB at h; simpa using h
theorem kinds_2 {k : Int} (h : kindsB k 2 = true) : k = 2 ∨ k = 6 := by unfold kindsB at h; simpa using h
theorem kinds_3 {k : Int} (h : kindsB k 3 = true) : k = 3 ∨ k = 7 := by unfold kindsB at h; simpa using h
theorem toE_1 {d : Dt} (h : d.k = 1) : d.toE = .num d.n := by rw [Dt.toE_eq, h]; rfl
theorem toE_6 {d : Dt} (h : d.k = 6) : d.toE = .nF := by rw [Dt.toE_eq, h]; rfl
theorem toE_7 {d : Dt} (h : d.k = 7) : d.toE = .nP := by rw [Dt.toE_eq, h]; rfl
theorem why_none {d : Dt} (h : d.fnd 1 = none) : d.toE.why = 0 := by
  have := fnd_same 1 (.inl rfl) d
  rw [h] at this
  unfold Er.why
  rw [show d.toE.fnd .num = none from this]
theorem why_some {d x : Dt} (h : d.fnd 1 = some x) : d.toE.why = x.n := by
  have hk := kinds_1 (fnd_kind 1 (.inl rfl) d x h)
  have := fnd_same 1 (.inl rfl) d
  rw [h] at this
  unfold Er.why
  rw [show d.toE.fnd .num = some x.toE from this, toE_1 hk]
theorem at_none {d : Dt} (h : d.fnd 2 = none) : d.toE.at' = none := by
  have := fnd_same 2 (.inr (.inl rfl)) d
  rw [h] at this
  unfold Er.at'
  rw [show d.toE.fnd .flt = none from this]
theorem at_some {d x : Dt} (h : d.fnd 2 = some x) : (x.k = 2 ∧ d.toE.at' = some (x.op, x.h)) ∨ (x.k = 6 ∧ d.toE.at' = none) := by
  have hk := kinds_2 (fnd_kind 2 (.inr (.inl rfl)) d x h)
  have := fnd_same 2 (.inr (.inl rfl)) d
  rw [h] at this
  unfold Er.at'
  rw [show d.toE.fnd .flt = some x.toE from this]
  rcases hk with hk | hk
  · exact .inl ⟨hk, by rw [toE_2 hk]⟩
  · exact .inr ⟨hk, by rw [toE_6 hk]⟩
theorem line_none {d : Dt} (h : d.fnd 3 = none) : d.toE.line = none := by
  have := fnd_same 3 (.inr (.inr rfl)) d
  rw [h] at this
  unfold Er.line
  rw [show d.toE.fnd .plc = none from this]
theorem line_some {d x : Dt} (h : d.fnd 3 = some x) : (x.k = 3 ∧ d.toE.line = some x.n) ∨ (x.k = 7 ∧ d.toE.line = none) := by
  have hk := kinds_3 (fnd_kind 3 (.inr (.inr rfl)) d x h)
  have := fnd_same 3 (.inr (.inr rfl)) d
  rw [h] at this
  unfold Er.line
  rw [show d.toE.fnd .plc = some x.toE from this]
  rcases hk with hk | hk
  · exact .inl ⟨hk, by rw [toE_3 hk]⟩
  · exact .inr ⟨hk, by rw [toE_7 hk]⟩
end Ft
set_option maxHeartbeats 2000000 in
set_option maxRecDepth 100000 in
theorem rWhy (d : Dt) (v : Value) (w : World) (hv : DV w d v) : Calls Tryd.prog 15 #[v] w fun r w' => r = .returned (.int .i64 d.toE.why) ∧ Below w.heap.size w w' := by
  obtain ⟨p, cap, rfl, hm, h0, h1⟩ := hv.parts
  have hb : Below w.heap.size w (w.alloc (.cells #[.int .i64 d.k, .int .i64 d.op, .int .i64 d.h, .int .i64 d.n, .string d.t, .slice p d.m cap] 25)) := (by repeat (first | exact Below.refl _ _ | (with_reducible assumption) | refine Below.drew ?_ | (refine Below.alloc ?_ (by first | exact Nat.le_refl _ | omega | (simp; done) | (simp; omega)) _) | (refine Below.setCell ?_ (by first | omega | (simp; done) | (simp; omega)) _)))
  have HF := Lib.hid (found_any 1 (.inl rfl) w d _ _ hb hv)
  have HB := Lib.hid hb
  clear hb hv h0 h1
  generalize d.k = k at *; generalize d.op = op at *; generalize d.h = h at *; generalize d.n = n at *; generalize d.t = t at *; generalize d.m = m at *
  go_enter Tryd.func15, Tryd.ntmps15
  go_wp2_with fail
  refine HF.out.mono ?_
  rintro r w1 ⟨y, rfl, hy, hb1⟩
  have HB1 := Lib.hid (bnext HB.out hb1)
  clear hb1
  cases hf : d.fnd 1 with
  | none =>
    have HE := Lib.hid (why_none hf)
    rw [hf] at hy
    cases hy
    clear hf
    go_wp2_with fail
    have hbw := HB1.out
    have hs := hbw.size
    exact bodyPost_ret (v := .int .i64 0) (by simp [results, Tryd.results15, go_sem]) rfl ⟨by rw [HE.out], (by repeat (first | exact Below.refl _ _ | (with_reducible assumption) | refine Below.drew ?_ | (refine Below.alloc ?_ (by first | exact Nat.le_refl _ | omega | (simp; done) | (simp; omega)) _) | (refine Below.setCell ?_ (by first | omega | (simp; done) | (simp; omega)) _)))⟩
  | some z =>
    rw [hf] at hy
    obtain ⟨p2, cap2, ey, _⟩ := DV.parts (show DV w z y from hy)
    subst ey
    have HE := Lib.hid (why_some hf)
    clear hf hy
    generalize z.k = zk at *; generalize z.op = zo at *; generalize z.h = zh at *; generalize z.n = zn at *; generalize z.t = zt at *; generalize z.m = zm at *
    go_wp2_with fail
    have hbw := HB1.out
    have hs := hbw.size
    exact bodyPost_ret (v := .int .i64 zn) (by simp [results, Tryd.results15, go_sem]) rfl ⟨by rw [HE.out], (by repeat (first | exact Below.refl _ _ | (with_reducible assumption) | refine Below.drew ?_ | (refine Below.alloc ?_ (by first | exact Nat.le_refl _ | omega | (simp; done) | (simp; omega)) _) | (refine Below.setCell ?_ (by first | omega | (simp; done) | (simp; omega)) _)))⟩
set_option maxHeartbeats 2000000 in
set_option maxRecDepth 100000 in
theorem rWhere (d : Dt) (v : Value) (w : World) (hv : DV w d v) : Calls Tryd.prog 9 #[v] w fun r w' => r = .returned (.tuple #[.int .i64 ((d.toE.at'.map (·.2)).getD 0), .int .i64 ((d.toE.at'.map (·.1)).getD 0), .bool d.toE.at'.isSome]) ∧ Below w.heap.size w w' := by
  obtain ⟨p, cap, rfl, hm, h0, h1⟩ := hv.parts
  have hb : Below w.heap.size w (w.alloc (.cells #[.int .i64 d.k, .int .i64 d.op, .int .i64 d.h, .int .i64 d.n, .string d.t, .slice p d.m cap] 25)) := (by repeat (first | exact Below.refl _ _ | (with_reducible assumption) | refine Below.drew ?_ | (refine Below.alloc ?_ (by first | exact Nat.le_refl _ | omega | (simp; done) | (simp; omega)) _) | (refine Below.setCell ?_ (by first | omega | (simp; done) | (simp; omega)) _)))
  have HF := Lib.hid (found_any 2 (.inr (.inl rfl)) w d _ _ hb hv)
  have HB := Lib.hid hb
  clear hb hv h0 h1
  generalize d.k = k at *; generalize d.op = op at *; generalize d.h = h at *; generalize d.n = n at *; generalize d.t = t at *; generalize d.m = m at *
  go_enter Tryd.func9, Tryd.ntmps9
  go_wp2_with fail
  refine HF.out.mono ?_
  rintro r w1 ⟨y, rfl, hy, hb1⟩
  have HB1 := Lib.hid (bnext HB.out hb1)
  clear hb1
  cases hf : d.fnd 2 with
  | none =>
    have HE := Lib.hid (at_none hf)
    rw [hf] at hy
    cases hy
    clear hf
    go_wp2_with fail
    have hbw := HB1.out
    have hs := hbw.size
    exact bodyPost_ret (v := .tuple #[.int .i64 0, .int .i64 0, .bool false]) (by simp [results, Tryd.results9, go_sem]) rfl ⟨by rw [HE.out]; rfl, (by repeat (first | exact Below.refl _ _ | (with_reducible assumption) | refine Below.drew ?_ | (refine Below.alloc ?_ (by first | exact Nat.le_refl _ | omega | (simp; done) | (simp; omega)) _) | (refine Below.setCell ?_ (by first | omega | (simp; done) | (simp; omega)) _)))⟩
  | some z =>
    rw [hf] at hy
    obtain ⟨p2, cap2, ey, _⟩ := DV.parts (show DV w z y from hy)
    subst ey
    have hh := at_some hf
    clear hf hy
    generalize z.k = zk at *; generalize z.op = zo at *; generalize z.h = zh at *; generalize z.n = zn at *; generalize z.t = zt at *; generalize z.m = zm at *
    rcases hh with ⟨rfl, he⟩ | ⟨rfl, he⟩
    · have HE := Lib.hid he
      clear he
      go_wp2_with fail
      go_quiet (fail)
      go_wp2_with fail
      have hbw := HB1.out
      have hs := hbw.size
      exact bodyPost_ret (v := .tuple #[.int .i64 zh, .int .i64 zo, .bool true]) (by simp [results, Tryd.results9, go_sem]) rfl ⟨by rw [HE.out]; rfl, below_drews (by repeat (first | exact Below.refl _ _ | (with_reducible assumption) | refine Below.drew ?_ | (refine Below.alloc ?_ (by first | exact Nat.le_refl _ | omega | (simp; done) | (simp; omega)) _) | (refine Below.setCell ?_ (by first | omega | (simp; done) | (simp; omega)) _))) _⟩
    · have HE := Lib.hid he
      clear he
      go_wp2_with fail
      have hbw := HB1.out
      have hs := hbw.size
      exact bodyPost_ret (v := .tuple #[.int .i64 0, .int .i64 0, .bool false]) (by simp [results, Tryd.results9, go_sem]) rfl ⟨by rw [HE.out]; rfl, (by repeat (first | exact Below.refl _ _ | (with_reducible assumption) | refine Below.drew ?_ | (refine Below.alloc ?_ (by first | exact Nat.le_refl _ | omega | (simp; done) | (simp; omega)) _) | (refine Below.setCell ?_ (by first | omega | (simp; done) | (simp; omega)) _)))⟩
set_option maxHeartbeats 2000000 in
set_option maxRecDepth 100000 in
theorem rLineOf (d : Dt) (v : Value) (w : World) (hv : DV w d v) : Calls Tryd.prog 10 #[v] w fun r w' => r = .returned (.tuple #[.int .i64 (d.toE.line.getD 0), .bool d.toE.line.isSome]) ∧ Below w.heap.size w w' := by
  obtain ⟨p, cap, rfl, hm, h0, h1⟩ := hv.parts
  have hb : Below w.heap.size w (w.alloc (.cells #[.int .i64 d.k, .int .i64 d.op, .int .i64 d.h, .int .i64 d.n, .string d.t, .slice p d.m cap] 25)) := (by repeat (first | exact Below.refl _ _ | (with_reducible assumption) | refine Below.drew ?_ | (refine Below.alloc ?_ (by first | exact Nat.le_refl _ | omega | (simp; done) | (simp; omega)) _) | (refine Below.setCell ?_ (by first | omega | (simp; done) | (simp; omega)) _)))
  have HF := Lib.hid (found_any 3 (.inr (.inr rfl)) w d _ _ hb hv)
  have HB := Lib.hid hb
  clear hb hv h0 h1
  generalize d.k = k at *; generalize d.op = op at *; generalize d.h = h at *; generalize d.n = n at *; generalize d.t = t at *; generalize d.m = m at *
  go_enter Tryd.func10, Tryd.ntmps10
  go_wp2_with fail
  refine HF.out.mono ?_
  rintro r w1 ⟨y, rfl, hy, hb1⟩
  have HB1 := Lib.hid (bnext HB.out hb1)
  clear hb1
  cases hf : d.fnd 3 with
  | none =>
    have HE := Lib.hid (line_none hf)
    rw [hf] at hy
    cases hy
    clear hf
    go_wp2_with fail
    have hbw := HB1.out
    have hs := hbw.size
    exact bodyPost_ret (v := .tuple #[.int .i64 0, .bool false]) (by simp [results, Tryd.results10, go_sem]) rfl ⟨by rw [HE.out]; rfl, (by repeat (first | exact Below.refl _ _ | (with_reducible assumption) | refine Below.drew ?_ | (refine Below.alloc ?_ (by first | exact Nat.le_refl _ | omega | (simp; done) | (simp; omega)) _) | (refine Below.setCell ?_ (by first | omega | (simp; done) | (simp; omega)) _)))⟩
  | some z =>
    rw [hf] at hy
    obtain ⟨p2, cap2, ey, _⟩ := DV.parts (show DV w z y from hy)
    subst ey
    have hh := line_some hf
    clear hf hy
    generalize z.k = zk at *; generalize z.op = zo at *; generalize z.h = zh at *; generalize z.n = zn at *; generalize z.t = zt at *; generalize z.m = zm at *
    rcases hh with ⟨rfl, he⟩ | ⟨rfl, he⟩
    · have HE := Lib.hid he
      clear he
      go_wp2_with fail
      have hbw := HB1.out
      have hs := hbw.size
      exact bodyPost_ret (v := .tuple #[.int .i64 zn, .bool true]) (by simp [results, Tryd.results10, go_sem]) rfl ⟨by rw [HE.out]; rfl, (by repeat (first | exact Below.refl _ _ | (with_reducible assumption) | refine Below.drew ?_ | (refine Below.alloc ?_ (by first | exact Nat.le_refl _ | omega | (simp; done) | (simp; omega)) _) | (refine Below.setCell ?_ (by first | omega | (simp; done) | (simp; omega)) _)))⟩
    · have HE := Lib.hid he
      clear he
      go_wp2_with fail
      have hbw := HB1.out
      have hs := hbw.size
      exact bodyPost_ret (v := .tuple #[.int .i64 0, .bool false]) (by simp [results, Tryd.results10, go_sem]) rfl ⟨by rw [HE.out]; rfl, (by repeat (first | exact Below.refl _ _ | (with_reducible assumption) | refine Below.drew ?_ | (refine Below.alloc ?_ (by first | exact Nat.le_refl _ | omega | (simp; done) | (simp; omega)) _) | (refine Below.setCell ?_ (by first | omega | (simp; done) | (simp; omega)) _)))⟩
end Go.Proofs.YtlnamkplbikcjaaDoor
