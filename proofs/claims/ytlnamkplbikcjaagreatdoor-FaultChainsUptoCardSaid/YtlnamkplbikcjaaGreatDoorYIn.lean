/- What a tree wraps at a place, as the laws ask it and as the document does; no condition. -/
import Derived.Test.YtlnamkplbikcjaaGreatDoorYData
namespace Go.Proofs.YtlnamkplbikcjaaGreatDoor
open Go.RowKit Ft

/-- What such a call answers. -/
def InD (w0 w : World) (d : Dt) (r : Ending) (w' : World) : Prop := ∃ x, r = .returned x ∧ DV w0 d x ∧ Below w.heap.size w w'

set_option maxHeartbeats 1000000 in
set_option maxRecDepth 100000 in
theorem lin0 (d : Dt) (v : Value) (w0 w : World) (hb0 : Below w0.heap.size w0 w) (hv : DV w0 d v) : Calls Tryz.prog 21 #[v, .int .i64 0] w (InD w0 w d.kid0) := by
  obtain ⟨p, cap, rfl, hm, h0, h1⟩ := hv.parts
  by_cases hk : 0 < d.m
  · obtain ⟨g, off, x, rfl, he, hx⟩ := h0 hk
    obtain ⟨p2, cap2, rfl, y0, y1, y2, y3, y4, y5⟩ := elt_parts (he.below hb0) (DV.below hb0 hx)
    have HX := Lib.hid hx
    have hlt := cell_lt y0
    have hk2 : (0 : Int) < (d.m : Int) := by omega
    clear hv h0 h1 hx hk he hb0
    generalize d.k = k at *; generalize d.op = op at *; generalize d.h = h at *; generalize d.n = n at *; generalize d.t = t at *; generalize d.m = m at *
    generalize d.kid0 = e at *
    generalize e.k = k2 at *; generalize e.op = op2 at *; generalize e.h = hh2 at *; generalize e.n = n2 at *; generalize e.t = t2 at *; generalize e.m = m2 at *
    go_enter Tryz.func21, Tryz.ntmps21
    go_wp2_with fail
    have hb : Below w.heap.size w ((w.alloc (.cells #[.int .i64 k, .int .i64 op, .int .i64 h, .int .i64 n, .string t, .slice (some ⟨g, off, none⟩) m cap] 25)).alloc (.cells #[.int .i64 k2, .int .i64 op2, .int .i64 hh2, .int .i64 n2, .string t2, .slice p2 m2 cap2] 25)) := (by repeat (first | exact Below.refl _ _ | (with_reducible assumption) | refine Below.drew ?_ | (refine Below.alloc ?_ (by first | exact Nat.le_refl _ | omega | (simp; done) | (simp; omega)) _) | (refine Below.setCell ?_ (by first | omega | (simp; done) | (simp; omega)) _)))
    exact bodyPost_ret (v := .agg #[.int .i64 k2, .int .i64 op2, .int .i64 hh2, .int .i64 n2, .string t2, .slice p2 m2 cap2]) (by simp [results, Tryz.results21, go_sem]) rfl ⟨_, rfl, HX.out, hb⟩
  · have hk2 : ¬ (0 : Int) < (d.m : Int) := by omega
    rw [kid0_no hk]
    clear hv h0 h1 hk hb0
    generalize d.k = k at *; generalize d.op = op at *; generalize d.h = h at *; generalize d.n = n at *; generalize d.t = t at *; generalize d.m = m at *
    go_enter Tryz.func21, Tryz.ntmps21
    go_wp2_with fail
    exact bodyPost_ret (v := .agg #[.int .i64 0, .int .i64 0, .int .i64 0, .int .i64 0, .string ⟨#[]⟩, .slice none 0 0]) (by simp [results, Tryz.results21, go_sem]) rfl ⟨_, rfl, rfl, (by repeat (first | exact Below.refl _ _ | (with_reducible assumption) | refine Below.drew ?_ | (refine Below.alloc ?_ (by first | exact Nat.le_refl _ | omega | (simp; done) | (simp; omega)) _) | (refine Below.setCell ?_ (by first | omega | (simp; done) | (simp; omega)) _)))⟩

set_option maxHeartbeats 1000000 in
set_option maxRecDepth 100000 in
theorem lin1 (d : Dt) (v : Value) (w0 w : World) (hb0 : Below w0.heap.size w0 w) (hv : DV w0 d v) : Calls Tryz.prog 21 #[v, .int .i64 1] w (InD w0 w d.kid1) := by
  obtain ⟨p, cap, rfl, hm, h0, h1⟩ := hv.parts
  by_cases hk : 1 < d.m
  · obtain ⟨g, off, x, rfl, he, hx⟩ := h1 hk
    obtain ⟨p2, cap2, rfl, y0, y1, y2, y3, y4, y5⟩ := elt_parts (he.below hb0) (DV.below hb0 hx)
    rw [Nat.add_assoc] at y1 y2 y3 y4 y5
    have HX := Lib.hid hx
    have hlt := cell_lt y0
    have hk2 : (1 : Int) < (d.m : Int) := by omega
    clear hv h0 h1 hx hk he hb0
    generalize d.k = k at *; generalize d.op = op at *; generalize d.h = h at *; generalize d.n = n at *; generalize d.t = t at *; generalize d.m = m at *
    generalize d.kid1 = e at *
    generalize e.k = k2 at *; generalize e.op = op2 at *; generalize e.h = hh2 at *; generalize e.n = n2 at *; generalize e.t = t2 at *; generalize e.m = m2 at *
    go_enter Tryz.func21, Tryz.ntmps21
    go_wp2_with fail
    have hb : Below w.heap.size w ((w.alloc (.cells #[.int .i64 k, .int .i64 op, .int .i64 h, .int .i64 n, .string t, .slice (some ⟨g, off, none⟩) m cap] 25)).alloc (.cells #[.int .i64 k2, .int .i64 op2, .int .i64 hh2, .int .i64 n2, .string t2, .slice p2 m2 cap2] 25)) := (by repeat (first | exact Below.refl _ _ | (with_reducible assumption) | refine Below.drew ?_ | (refine Below.alloc ?_ (by first | exact Nat.le_refl _ | omega | (simp; done) | (simp; omega)) _) | (refine Below.setCell ?_ (by first | omega | (simp; done) | (simp; omega)) _)))
    exact bodyPost_ret (v := .agg #[.int .i64 k2, .int .i64 op2, .int .i64 hh2, .int .i64 n2, .string t2, .slice p2 m2 cap2]) (by simp [results, Tryz.results21, go_sem]) rfl ⟨_, rfl, HX.out, hb⟩
  · have hk2 : ¬ (1 : Int) < (d.m : Int) := by omega
    rw [kid1_no hk]
    clear hv h0 h1 hk hb0
    generalize d.k = k at *; generalize d.op = op at *; generalize d.h = h at *; generalize d.n = n at *; generalize d.t = t at *; generalize d.m = m at *
    go_enter Tryz.func21, Tryz.ntmps21
    go_wp2_with fail
    exact bodyPost_ret (v := .agg #[.int .i64 0, .int .i64 0, .int .i64 0, .int .i64 0, .string ⟨#[]⟩, .slice none 0 0]) (by simp [results, Tryz.results21, go_sem]) rfl ⟨_, rfl, rfl, (by repeat (first | exact Below.refl _ _ | (with_reducible assumption) | refine Below.drew ?_ | (refine Below.alloc ?_ (by first | exact Nat.le_refl _ | omega | (simp; done) | (simp; omega)) _) | (refine Below.setCell ?_ (by first | omega | (simp; done) | (simp; omega)) _)))⟩

set_option maxHeartbeats 1000000 in
set_option maxRecDepth 100000 in
theorem rin0 (d : Dt) (v : Value) (w0 w : World) (hb0 : Below w0.heap.size w0 w) (hv : DV w0 d v) : Calls Tryz.prog 32 #[v, .int .i64 0] w (InD w0 w d.kid0) := by
  obtain ⟨p, cap, rfl, hm, h0, h1⟩ := hv.parts
  by_cases hk : 0 < d.m
  · obtain ⟨g, off, x, rfl, he, hx⟩ := h0 hk
    obtain ⟨p2, cap2, rfl, y0, y1, y2, y3, y4, y5⟩ := elt_parts (he.below hb0) (DV.below hb0 hx)
    have HX := Lib.hid hx
    have hlt := cell_lt y0
    have hk2 : (0 : Int) < (d.m : Int) := by omega
    clear hv h0 h1 hx hk he hb0
    generalize d.k = k at *; generalize d.op = op at *; generalize d.h = h at *; generalize d.n = n at *; generalize d.t = t at *; generalize d.m = m at *
    generalize d.kid0 = e at *
    generalize e.k = k2 at *; generalize e.op = op2 at *; generalize e.h = hh2 at *; generalize e.n = n2 at *; generalize e.t = t2 at *; generalize e.m = m2 at *
    go_enter Tryz.func32, Tryz.ntmps32
    go_wp2_with fail
    have hb : Below w.heap.size w ((w.alloc (.cells #[.int .i64 k, .int .i64 op, .int .i64 h, .int .i64 n, .string t, .slice (some ⟨g, off, none⟩) m cap] 25)).alloc (.cells #[.int .i64 k2, .int .i64 op2, .int .i64 hh2, .int .i64 n2, .string t2, .slice p2 m2 cap2] 25)) := (by repeat (first | exact Below.refl _ _ | (with_reducible assumption) | refine Below.drew ?_ | (refine Below.alloc ?_ (by first | exact Nat.le_refl _ | omega | (simp; done) | (simp; omega)) _) | (refine Below.setCell ?_ (by first | omega | (simp; done) | (simp; omega)) _)))
    exact bodyPost_ret (v := .agg #[.int .i64 k2, .int .i64 op2, .int .i64 hh2, .int .i64 n2, .string t2, .slice p2 m2 cap2]) (by simp [results, Tryz.results32, go_sem]) rfl ⟨_, rfl, HX.out, hb⟩
  · have hk2 : ¬ (0 : Int) < (d.m : Int) := by omega
    rw [kid0_no hk]
    clear hv h0 h1 hk hb0
    generalize d.k = k at *; generalize d.op = op at *; generalize d.h = h at *; generalize d.n = n at *; generalize d.t = t at *; generalize d.m = m at *
    go_enter Tryz.func32, Tryz.ntmps32
    go_wp2_with fail
    exact bodyPost_ret (v := .agg #[.int .i64 0, .int .i64 0, .int .i64 0, .int .i64 0, .string ⟨#[]⟩, .slice none 0 0]) (by simp [results, Tryz.results32, go_sem]) rfl ⟨_, rfl, rfl, (by repeat (first | exact Below.refl _ _ | (with_reducible assumption) | refine Below.drew ?_ | (refine Below.alloc ?_ (by first | exact Nat.le_refl _ | omega | (simp; done) | (simp; omega)) _) | (refine Below.setCell ?_ (by first | omega | (simp; done) | (simp; omega)) _)))⟩

set_option maxHeartbeats 1000000 in
set_option maxRecDepth 100000 in
theorem rin1 (d : Dt) (v : Value) (w0 w : World) (hb0 : Below w0.heap.size w0 w) (hv : DV w0 d v) : Calls Tryz.prog 32 #[v, .int .i64 1] w (InD w0 w d.kid1) := by
  obtain ⟨p, cap, rfl, hm, h0, h1⟩ := hv.parts
  by_cases hk : 1 < d.m
  · obtain ⟨g, off, x, rfl, he, hx⟩ := h1 hk
    obtain ⟨p2, cap2, rfl, y0, y1, y2, y3, y4, y5⟩ := elt_parts (he.below hb0) (DV.below hb0 hx)
    rw [Nat.add_assoc] at y1 y2 y3 y4 y5
    have HX := Lib.hid hx
    have hlt := cell_lt y0
    have hk2 : (1 : Int) < (d.m : Int) := by omega
    clear hv h0 h1 hx hk he hb0
    generalize d.k = k at *; generalize d.op = op at *; generalize d.h = h at *; generalize d.n = n at *; generalize d.t = t at *; generalize d.m = m at *
    generalize d.kid1 = e at *
    generalize e.k = k2 at *; generalize e.op = op2 at *; generalize e.h = hh2 at *; generalize e.n = n2 at *; generalize e.t = t2 at *; generalize e.m = m2 at *
    go_enter Tryz.func32, Tryz.ntmps32
    go_wp2_with fail
    have hb : Below w.heap.size w ((w.alloc (.cells #[.int .i64 k, .int .i64 op, .int .i64 h, .int .i64 n, .string t, .slice (some ⟨g, off, none⟩) m cap] 25)).alloc (.cells #[.int .i64 k2, .int .i64 op2, .int .i64 hh2, .int .i64 n2, .string t2, .slice p2 m2 cap2] 25)) := (by repeat (first | exact Below.refl _ _ | (with_reducible assumption) | refine Below.drew ?_ | (refine Below.alloc ?_ (by first | exact Nat.le_refl _ | omega | (simp; done) | (simp; omega)) _) | (refine Below.setCell ?_ (by first | omega | (simp; done) | (simp; omega)) _)))
    exact bodyPost_ret (v := .agg #[.int .i64 k2, .int .i64 op2, .int .i64 hh2, .int .i64 n2, .string t2, .slice p2 m2 cap2]) (by simp [results, Tryz.results32, go_sem]) rfl ⟨_, rfl, HX.out, hb⟩
  · have hk2 : ¬ (1 : Int) < (d.m : Int) := by omega
    rw [kid1_no hk]
    clear hv h0 h1 hk hb0
    generalize d.k = k at *; generalize d.op = op at *; generalize d.h = h at *; generalize d.n = n at *; generalize d.t = t at *; generalize d.m = m at *
    go_enter Tryz.func32, Tryz.ntmps32
    go_wp2_with fail
    exact bodyPost_ret (v := .agg #[.int .i64 0, .int .i64 0, .int .i64 0, .int .i64 0, .string ⟨#[]⟩, .slice none 0 0]) (by simp [results, Tryz.results32, go_sem]) rfl ⟨_, rfl, rfl, (by repeat (first | exact Below.refl _ _ | (with_reducible assumption) | refine Below.drew ?_ | (refine Below.alloc ?_ (by first | exact Nat.le_refl _ | omega | (simp; done) | (simp; omega)) _) | (refine Below.setCell ?_ (by first | omega | (simp; done) | (simp; omega)) _)))⟩
end Go.Proofs.YtlnamkplbikcjaaGreatDoor
