/- The statement SlackLoads: whatever the state and the row of acts, the law answers true, and its arguments read as they did; no condition. -/
import Derived.Test.YtedgchafligndaaGreatRows
import Derived.Test.YtedgchafligndaaGreatJKJLawLoads
import Derived.Test.YtedgchafligndaaGreatJKJOpens3
import Derived.ProofKit
import Derived.SizedLaws
import Derived.Deep.Slices
namespace Go.Proofs.YtedgchafligndaaGreat
namespace lawJLoads
open Go.ChangeShapes Go.WideShapes Go.ChangeAt Go.RowKit Go.Joins

theorem own : ownKnob Tryz.prog.godebug = none := by kernel_rfl

set_option maxRecDepth 100000 in
theorem lifted (os : Os) (started : os.Started) (H : Type) (enc : TypeId × Value → H) :
    ReturnsInHanded {} Tryz.checked os 3 .any (Rows.slackLoadsSpec.pre6 enc Tryz.prog Tryz.f3 Rows.slackLoadsRow.domain false) (Rows.slackLoadsSpec.post enc Tryz.prog Tryz.f3 false true false false) := by
  refine returnsInHanded_of_change_sized (C := Tryz.checked) own started (by kernel_rfl) Tryz.func3
    (ChangeSpec.witness6 (enc := enc) (C := Tryz.checked) false ⟨#[], #[.agg #[.slice none 0 0, .slice none 0 0, .slice none 0 0, .int .i64 0], .slice none 0 0], []⟩ 8 (by kernel_rfl) (by kernel_rfl) (by kernel_rfl) (by kernel_rfl)) ?_
  intro W base args ds gs before hval0 hW _ hsz0 _
  have hsz : (DataW.weightsEach Tryz.prog (Tryz.f3.params.toList ++ Rows.slackLoadsSpec.plain.varTypes Tryz.prog) (ds ++ gs)).all (· ≤ reachBytes) = true := hsz0
  clear hsz0
  have hval : ∀ (j : Nat) t v, Tryz.f3.params[j]? = some t → args[j]? = some v → Value.okWide Tryz.prog W .any base t v := hval0
  have hW' := hW
  obtain ⟨p, q, hA0, hV, rfl, hfz, hnd⟩ := hW
  have hA : DataW.TrodAll enc Tryz.prog W 0 (fun _ => true) true Tryz.f3.params.toList args.toList ds p := hA0
  rw [Tryz.params3] at hA hval hsz
  obtain ⟨v0, v1, d0, d1, p0, p1, rfl, rfl, rfl, h0, h1⟩ := trodAll_two hA
  obtain ⟨rfl, rfl⟩ := trodVars_none hV
  obtain ⟨s1, len1, cap1, rfl⟩ := okWide_slice Tryz.underlying27 (hval 1 27 v1 rfl rfl)
  simp only [List.append_nil] at hW'
  have hk0 := h0
  obtain ⟨u0, u1, u2, u3, y0, y1, y2, y3, ny, rfl, rfl, rfl, g0, g1, g2, g3⟩ := open_agg4 Tryz.underlying26 (by kernel_rfl) (by kernel_rfl) (hval 0 26 v0 rfl rfl) h0
  obtain ⟨lg, hlg⟩ := open_nums (enc := enc) (w := W) g0
  obtain ⟨lt, hlt⟩ := open_flags (enc := enc) (w := W) g1
  have hgb : lg.length * 8 ≤ 140737488355328 := by
    obtain ⟨pp, cc, e, _⟩ := hlg
    have h9 := nums_bound (enc := enc) (w := W) g0 (fun m hm => by
      have h1 : m ∈ (DataW.agg [y0.1, y1.1, y2.1, y3.1]).weights Tryz.prog 26 := by
        simp only [DataW.weights, Tryz.underlying26]
        exact DataW.weights_mem_each (j := 0) rfl rfl m hm
      have h2 := List.all_eq_true.1 hsz m (DataW.weights_mem_each (j := 0) (t := 26) rfl rfl m h1)
      simpa using h2) _ _ _ e
    rwa [ints_len] at h9
  have htb : lt.length ≤ 140737488355328 := by
    obtain ⟨pp, cc, e, _⟩ := hlt
    have h9 := flags_bound (enc := enc) (w := W) g1 (fun m hm => by
      have h1 : m ∈ (DataW.agg [y0.1, y1.1, y2.1, y3.1]).weights Tryz.prog 26 := by
        simp only [DataW.weights, Tryz.underlying26]
        exact DataW.weights_mem_each (j := 1) rfl rfl m hm
      have h2 := List.all_eq_true.1 hsz m (DataW.weights_mem_each (j := 0) (t := 26) rfl rfl m h1)
      simpa using h2) _ _ _ e
    rw [bools_len] at h9
    omega
  obtain ⟨z3, e3, _⟩ := DataW.trod_int Tryz.underlying3 g3
  simp only [List.cons.injEq, and_true] at e3
  subst e3
  obtain ⟨n0, T0, hj0, hB0, ho0⟩ := open_tasks (enc := enc) (w := W) g2 (fun m hm => by
    have h1 : m ∈ (DataW.agg [y0.1, y1.1, y2.1, y3.1]).weights Tryz.prog 26 := by
      simp only [DataW.weights, Tryz.underlying26]
      exact DataW.weights_mem_each (j := 2) rfl rfl m hm
    have h2 := List.all_eq_true.1 hsz m (DataW.weights_mem_each (j := 0) (t := 26) rfl rfl m h1)
    simpa using h2)
  obtain ⟨p0, hp0⟩ : ∃ p0, p0 = y0.2 ++ (y1.2 ++ (y2.2 ++ y3.2)) := ⟨_, rfl⟩
  obtain ⟨d0, hd0⟩ : ∃ d0, d0 = DataW.agg [y0.1, y1.1, y2.1, y3.1] := ⟨_, rfl⟩
  rw [← hp0] at hW' hk0
  rw [← hd0] at hW' hk0
  have hlt0 : ∀ x ∈ p0, x.block < W.heap.size := fun x hx => by simpa using hW'.lt x (by simp [hx])
  have hsh0 : ∀ (W' : World), Below W.heap.size W W' → DataW.Trod enc Tryz.prog W' 0 (fun b => decide (b < W.heap.size)) true 26 _ d0 p0 :=
    fun W' hn => Below.trod laidOutz (by kernel_rfl) (of_decide_eq_true (by kernel_rfl)) hk0 hn hlt0
  have hk1 := h1
  obtain ⟨fuel1, hf1⟩ := h1
  obtain ⟨m1, O1, ho1⟩ := open_acts (enc := enc) (w := W) hf1
  have hlt1 : ∀ x ∈ p1, x.block < W.heap.size := fun x hx => by simpa using hW'.lt x (by simp [hx])
  have hsh1 : ∀ (W' : World), Below W.heap.size W W' → DataW.Trod enc Tryz.prog W' 0 (fun b => decide (b < W.heap.size)) true 27 _ d1 p1 :=
    fun W' hn => Below.trod laidOutz (by kernel_rfl) (of_decide_eq_true (by kernel_rfl)) hk1 hn hlt1
  refine (loads_any lg lt n0 T0 _ _ _ _ _ m1 O1 W hlg hlt hj0 hgb htb hB0 ho0 ho1).mono fun e W' ⟨he, hb⟩ => ?_
  subst he
  refine ⟨_, rfl, _, _, _, [], p0 ++ p1, [], hW', ?_, ?_, ?_, hb.frame _, fun h => by cases h⟩
  · exact trodAll_mk1 (shut_bool Tryz.underlying4 true)
  · exact trodAll_mk2 (hsh0 W' hb) (hsh1 W' hb)
  · exact rfl

theorem holds : Rows.SlackLoadsSaid :=
  OpenClaim.holds_of_wide 3 Tryz.f3 rfl rfl rfl rfl rfl rfl rfl ⟨rfl, rfl, rfl, rfl, rfl⟩ rfl rfl rfl rfl rfl (by kernel_rfl) Tryz.func3 (by kernel_rfl)
    (of_decide_eq_true (by kernel_rfl)) (by unfold Func.isWrapper; first | (rw [if_pos (by decide +kernel)]; kernel_rfl) | (rw [if_neg (by decide +kernel)]; exact ⟨rfl, rfl⟩))
    (fun os started H enc _ => lifted os started H enc)
#print axioms holds
end lawJLoads
end Go.Proofs.YtedgchafligndaaGreat
