/- The document's Text and Say; no condition but that a text is of 2^40 bytes at most. -/
import Derived.Test.YtlnamkplbikcjaaGreatDoorYTextRF
import Derived.Test.YtlnamkplbikcjaaGreatDoorYTextRT
namespace Go.Proofs.YtlnamkplbikcjaaGreatDoor
open Go.RowKit Ft

theorem rText16 (d : Dt) (hok : d.ok) (hlen : (d.toE.txt false).length ≤ 1099511627776) (v : Value) (w : World) (hv : DV w d v) :
    Calls Tryz.prog 10 #[v] w fun r w' => r = .returned (.string ⟨(d.toE.txt false).toArray⟩) ∧ Below w.heap.size w w' := by
  obtain ⟨p, cap, rfl, hm, h0, h1⟩ := hv.parts
  have hb : Below w.heap.size w (w.alloc (.cells #[.int .i64 d.k, .int .i64 d.op, .int .i64 d.h, .int .i64 d.n, .string d.t, .slice p d.m cap] 25)) := (by repeat (first | exact Below.refl _ _ | (with_reducible assumption) | refine Below.drew ?_ | (refine Below.alloc ?_ (by first | exact Nat.le_refl _ | omega | (simp; done) | (simp; omega)) _) | (refine Below.setCell ?_ (by first | omega | (simp; done) | (simp; omega)) _)))
  have HT := Lib.hid (text_anyF w d hok hlen _ _ hb hv)
  have HB := Lib.hid hb
  clear hb hv h0 h1 hlen hok
  go_enter Tryz.func10, Tryz.ntmps10
  go_wp2_with fail
  refine HT.out.mono ?_
  rintro r w1 ⟨rfl, hb1⟩
  go_wp2_with fail
  go_ret
  exact ⟨rfl, bnext HB.out hb1⟩
theorem rSay16 (d : Dt) (hok : d.ok) (hlen : (d.toE.txt true).length ≤ 1099511627776) (v : Value) (w : World) (hv : DV w d v) :
    Calls Tryz.prog 11 #[v] w fun r w' => r = .returned (.string ⟨(d.toE.txt true).toArray⟩) ∧ Below w.heap.size w w' := by
  obtain ⟨p, cap, rfl, hm, h0, h1⟩ := hv.parts
  have hb : Below w.heap.size w (w.alloc (.cells #[.int .i64 d.k, .int .i64 d.op, .int .i64 d.h, .int .i64 d.n, .string d.t, .slice p d.m cap] 25)) := (by repeat (first | exact Below.refl _ _ | (with_reducible assumption) | refine Below.drew ?_ | (refine Below.alloc ?_ (by first | exact Nat.le_refl _ | omega | (simp; done) | (simp; omega)) _) | (refine Below.setCell ?_ (by first | omega | (simp; done) | (simp; omega)) _)))
  have HT := Lib.hid (text_anyT w d hok hlen _ _ hb hv)
  have HB := Lib.hid hb
  clear hb hv h0 h1 hlen hok
  go_enter Tryz.func11, Tryz.ntmps11
  go_wp2_with fail
  refine HT.out.mono ?_
  rintro r w1 ⟨rfl, hb1⟩
  go_wp2_with fail
  go_ret
  exact ⟨rfl, bnext HB.out hb1⟩
end Go.Proofs.YtlnamkplbikcjaaGreatDoor
