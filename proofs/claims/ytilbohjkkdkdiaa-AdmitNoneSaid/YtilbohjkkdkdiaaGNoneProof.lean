/- The statement AdmitNone: whatever the act, the law answers true, and its argument reads as it did; no condition. -/
import Derived.Test.YtilbohjkkdkdiaaRows
import Derived.Test.YtilbohjkkdkdiaaGWorks
import Derived.Test.YtilbohjkkdkdiaaGOpens
import Derived.ProofKit
namespace Go.Proofs.Ytilbohjkkdkdiaa
namespace lawGNone
open Go.ChangeShapes Go.WideShapes Go.ChangeAt Go.RowKit Go.Joins

theorem own : ownKnob Try.prog.godebug = none := by kernel_rfl

set_option maxRecDepth 100000 in
theorem lifted (os : Os) (started : os.Started) (H : Type) (enc : TypeId × Value → H) :
    ReturnsInHanded {} Try.checked os 5 .any (Rows.admitNoneSpec.pre6 enc Try.prog Try.f5 Rows.admitNoneRow.domain false) (Rows.admitNoneSpec.post enc Try.prog Try.f5 false true false false) := by
  refine returnsInHanded_of_change (C := Try.checked) own started (by kernel_rfl) Try.func5
    (ChangeSpec.witness6 (enc := enc) (C := Try.checked) false ⟨#[], #[.agg #[.int .i64 0, .int .i64 0, .int .i64 0]], []⟩ 8 (by kernel_rfl) (by kernel_rfl) (by kernel_rfl) (by kernel_rfl)) ?_
  intro W base args ds gs before hval0 hW _ _
  have hval : ∀ (j : Nat) t v, Try.f5.params[j]? = some t → args[j]? = some v → Value.okWide Try.prog W .any base t v := hval0
  have hW' := hW
  obtain ⟨p, q, hA0, hV, rfl, hfz, hnd⟩ := hW
  have hA : DataW.TrodAll enc Try.prog W 0 (fun _ => true) true Try.f5.params.toList args.toList ds p := hA0
  rw [Try.params5] at hA hval
  obtain ⟨v0, d0, rfl, rfl, h0⟩ := trodAll_one hA
  obtain ⟨rfl, rfl⟩ := trodVars_none hV
  obtain ⟨c0, e0, g0, y0, z0, k0, m0, rfl, rfl, rfl, hy0, hz0, hk0⟩ := open_agg3 Try.underlying29 (by kernel_rfl) cellsAct (hval 0 29 v0 rfl rfl) h0
  obtain ⟨a0, u0, rfl, wa0⟩ := DataW.trod_int Try.underlying3 hy0
  obtain ⟨a1, u1, rfl, wa1⟩ := DataW.trod_int Try.underlying3 hz0
  obtain ⟨a2, u2, rfl, wa2⟩ := DataW.trod_int Try.underlying3 hk0
  simp at u0 u1 u2
  subst u0 u1 u2
  simp only [List.append_nil] at hW'
  refine (none_any a0 a1 a2 W).mono fun e W' ⟨he, hb⟩ => ?_
  subst he
  refine ⟨_, rfl, _, _, _, [], [], [], hW', ?_, ?_, ?_, hb.frame _, fun h => by cases h⟩
  · exact trodAll_mk1 (shut_bool Try.underlying4 true)
  · exact trodAll_mk1 (readsAct a0 a1 a2 W' _ wa0 wa1 wa2)
  · exact rfl

theorem holds : Rows.AdmitNoneSaid :=
  OpenClaim.holds_of_wide 5 Try.f5 rfl rfl rfl rfl rfl rfl rfl ⟨rfl, rfl, rfl, rfl, rfl⟩ rfl rfl rfl rfl rfl (by kernel_rfl) Try.func5 (by kernel_rfl)
    (of_decide_eq_true (by kernel_rfl)) (by unfold Func.isWrapper; first | (rw [if_pos (by decide +kernel)]; kernel_rfl) | (rw [if_neg (by decide +kernel)]; exact ⟨rfl, rfl⟩))
    (fun os started H enc _ => lifted os started H enc)
#print axioms holds
end lawGNone
end Go.Proofs.Ytilbohjkkdkdiaa
