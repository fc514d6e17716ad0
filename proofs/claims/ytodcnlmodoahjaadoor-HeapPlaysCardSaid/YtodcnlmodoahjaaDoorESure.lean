/- The law's own sure: what must come whatever the input is; no condition. -/
import Derived.Test.YtodcnlmodoahjaaDoorEOps
namespace Go.Proofs.YtodcnlmodoahjaaDoor
open Go.RowKit Go.Maps Hp

theorem HpR.under {α : Type} [Inhabited α] {kc : α → α → Int} {enc : α → Value} {T E : TypeId} {B : Nat} {S : Nat → Prop} {w w' : World} {R : List (Int × α)} {b : Nat} (h : HpR kc enc T E B S w R b) (hB : B ≤ w.heap.size) (hk : Keeps S w w') : Below B w w' := hk.below hB (fun x hx => (h.lt x hx).1)
theorem Come.under {α : Type} [Inhabited α] {kc : α → α → Int} {enc : α → Value} {T E : TypeId} {B : Nat} {S : Nat → Prop} {w0 w w' : World} {R R' : List (Int × α)} {b : Nat} (hb : Below B w0 w) (h : HpR kc enc T E B S w R b) (hB : B ≤ w.heap.size) (hc : Come kc enc T E B S w R' b w') : Below B w0 w' := by
  obtain ⟨S', _, hk, _⟩ := hc
  exact hb.trans (h.under hB hk)
set_option maxHeartbeats 1000000 in
theorem sure_any (w : World) : Calls Tryd.prog 21 #[] w fun e w' => e = .returned (.bool true) ∧ Below w.heap.size w w' := by
  have h0 := hp_new_I (B := w.heap.size) w (Nat.le_refl _)
  have HP1 := Lib.hid (push_I h0 7 30 ⟨by decide, by decide⟩ (fun e he => by simp at he) (by simp) (by simp))
  have HB0 := Lib.hid (show Below w.heap.size w (w.alloc (.cells #[.slice none 0 0, .map none] HT_I)) from (Below.refl _ _).alloc (Nat.le_refl _) _)
  have H0 := Lib.hid h0
  clear h0
  go_enter Tryd.func21, Tryd.ntmps21
  go_wp2_with fail
  refine (new_I w).mono ?_
  rintro e w1 ⟨rfl, rfl⟩
  go_wp2_with fail
  refine HP1.out.mono ?_
  rintro e w2 ⟨rfl, hc⟩
  have HB1 := Lib.hid (hc.under HB0.out H0.out (by simp))
  obtain ⟨S2, h2, hk2, hS2⟩ := hc
  have HP2 := Lib.hid (push_I h2 5 10 ⟨by decide, by decide⟩ (fun e he => by simp at he; subst he; decide) (by simp) HB1.out.size)
  have H2 := Lib.hid h2
  clear h2 hk2 hS2
  go_wp2_with fail
  refine HP2.out.mono ?_
  rintro e w3 ⟨rfl, hc⟩
  have HB2 := Lib.hid (hc.under HB1.out H2.out HB1.out.size)
  obtain ⟨S3, h3, hk3, hS3⟩ := hc
  have HM := Lib.hid (min_I h3 (5, 10) ⟨by simp, fun y hy => by simp at hy; rcases hy with rfl | rfl <;> rfl⟩)
  clear h3 hk3 hS3
  go_wp2_with fail
  refine HM.out.mono ?_
  rintro e w4 ⟨rfl, hb⟩
  have HB3 := Lib.hid (HB2.out.trans (hb.mono HB2.out.size))
  clear hb
  go_wp2_with fail
  go_ret
  exact ⟨rfl, HB3.out⟩
end Go.Proofs.YtodcnlmodoahjaaDoor
