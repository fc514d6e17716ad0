/- The statement LeafLoads, as its tied card: for every input whatever the law answers true, and its arguments read as they did; the listed variables hold what the program's text lays in them. -/
import Derived.Test.YthbkinopgialmaaGreatDoorZO1
import Derived.Test.YthbkinopgialmaaGreatDoorZO12
import Derived.Test.YthbkinopgialmaaGreatDoorCards
import Derived.Test.YthbkinopgialmaaGreatDoorTie
import Derived.SevenTiedAt
namespace Go.Proofs.YthbkinopgialmaaGreatDoor
namespace lawZLoads
open Go.ChangeShapes Go.WideShapes Go.ChangeAt Go.RowKit Go.Joins

set_option maxRecDepth 100000 in
theorem lifted (os : Os) (started : os.Started) (H : Type) (enc : TypeId × Value → H) :
    ReturnsInHanded {} Tryz.checked os 4 .any (fun w args => (Rows.leafLoadsSpec.pre enc Tryz.prog Tryz.f4 [] false w args ∧ laidMetH Tryz.prog laidL w) ∧ sizedMet enc Tryz.prog Tryz.f4 (OpenSpec.ofChange Rows.leafLoadsSpec) false w args)
      (Rows.leafLoadsSpec.post enc Tryz.prog Tryz.f4 false true false false) := by
  refine returnsInHanded_of_change_and (C := Tryz.checked) (X := fun w _ => laidMetH Tryz.prog laidL w) (fun _ _ _ hh h => h.of_heap hh) own started (by kernel_rfl) Tryz.func4
    (ChangeSpec.witness_at (enc := enc) (C := Tryz.checked) (os := os) (X := fun w _ => laidMetH Tryz.prog laidL w) false (laidWorld os) #[.agg #[.slice none 0 0, .slice none 0 0, .slice none 0 0], .slice none 0 0] 8 rfl (by kernel_rfl) (by kernel_rfl) (by kernel_rfl) (by kernel_rfl) (by kernel_rfl) (laidWorld_met os _)) ?_
  intro W base args ds gs before hval0 hW _ hsz0 hL _
  have hsz : (DataW.weightsEach Tryz.prog (Tryz.f4.params.toList ++ Rows.leafLoadsSpec.plain.varTypes Tryz.prog) (ds ++ gs)).all (· ≤ reachBytes) = true := hsz0
  clear hsz0
  have hval : ∀ (j : Nat) t v, Tryz.f4.params[j]? = some t → args[j]? = some v → Value.okWide Tryz.prog W .any base t v := hval0
  have hW' := hW
  obtain ⟨p, q, hA0, hV, rfl, hfz, hnd⟩ := hW
  have hA : DataW.TrodAll enc Tryz.prog W 0 (fun _ => true) true Tryz.f4.params.toList args.toList ds p := hA0
  rw [Tryz.params4] at hA hval hsz
  obtain ⟨v0, v1, d0, d1, p0, p1, rfl, rfl, rfl, h0, h1⟩ := trodAll_two hA
  obtain ⟨rfl, rfl⟩ := trodVars_none hV
  obtain ⟨s1, len1, cap1, rfl⟩ := okWide_slice Tryz.underlying22 (hval 1 22 v1 rfl rfl)
  simp only [List.append_nil] at hW'
  have hk0 := h0
  obtain ⟨u0, u1, u2, y0, y1, y2, ny, rfl, rfl, rfl, g0, g1, g2⟩ := open_agg3 Tryz.underlying44 (by kernel_rfl) (by kernel_rfl) (hval 0 44 v0 rfl rfl) h0
  obtain ⟨lg, hlg⟩ := open_nums (enc := enc) (w := W) g0
  obtain ⟨lt, hlt⟩ := open_flags (enc := enc) (w := W) g1
  obtain ⟨n0, T0, hj0, hB0, ho0⟩ := open_tasks (enc := enc) (w := W) g2 (fun m hm => by
    have h1 : m ∈ (DataW.agg [y0.1, y1.1, y2.1]).weights Tryz.prog 44 := by
      simp only [DataW.weights, Tryz.underlying44]
      exact DataW.weights_mem_each (j := 2) rfl rfl m hm
    have h2 := List.all_eq_true.1 hsz m (DataW.weights_mem_each (j := 0) (t := 44) rfl rfl m h1)
    simpa using h2)
  obtain ⟨p0, hp0⟩ : ∃ p0, p0 = y0.2 ++ (y1.2 ++ y2.2) := ⟨_, rfl⟩
  obtain ⟨d0, hd0⟩ : ∃ d0, d0 = DataW.agg [y0.1, y1.1, y2.1] := ⟨_, rfl⟩
  rw [← hp0] at hW' hk0
  rw [← hd0] at hW' hk0
  have hlt0 : ∀ x ∈ p0, x.block < W.heap.size := fun x hx => by simpa using hW'.lt x (by simp [hx])
  have hsh0 : ∀ (W' : World), Below W.heap.size W W' → DataW.Trod enc Tryz.prog W' 0 (fun b => decide (b < W.heap.size)) true 44 _ d0 p0 :=
    fun W' hn => Below.trod laidOutz (by kernel_rfl) (of_decide_eq_true (by kernel_rfl)) hk0 hn hlt0
  have hk1 := h1
  obtain ⟨fuel1, hf1⟩ := h1
  obtain ⟨m1, O1, ho1⟩ := open_opz (enc := enc) (w := W) hf1
  have hlt1 : ∀ x ∈ p1, x.block < W.heap.size := fun x hx => by simpa using hW'.lt x (by simp [hx])
  have hsh1 : ∀ (W' : World), Below W.heap.size W W' → DataW.Trod enc Tryz.prog W' 0 (fun b => decide (b < W.heap.size)) true 22 _ d1 p1 :=
    fun W' hn => Below.trod laidOutz (by kernel_rfl) (of_decide_eq_true (by kernel_rfl)) hk1 hn hlt1
  refine (loads_any lg lt n0 T0 _ _ _ _ m1 O1 W (laid_at hL) hlg hlt hj0 hB0 ho0 ho1).mono fun e W' ⟨he, hb⟩ => ?_
  subst he
  refine ⟨_, rfl, _, _, _, [], p0 ++ p1, [], hW', ?_, ?_, ?_, hb.frame _, fun h => by cases h⟩
  · exact trodAll_mk1 (shut_bool Tryz.underlying4 true)
  · exact trodAll_mk2 (hsh0 W' hb) (hsh1 W' hb)
  · exact rfl

theorem row_holds : Rows.LeafLoadsSaid :=
  OpenClaim.holds_of_wide 4 Tryz.f4 rfl rfl rfl rfl rfl rfl rfl ⟨rfl, rfl, rfl, rfl, rfl⟩ rfl rfl rfl rfl rfl (by kernel_rfl) Tryz.func4 (by kernel_rfl)
    (of_decide_eq_true (by kernel_rfl)) (by unfold Func.isWrapper; rw [if_neg (of_decide_eq_false (by kernel_rfl))]; exact ⟨rfl, rfl⟩)
    (fun os started H enc _ => lifted os started H enc)

theorem card_holds : Rows.LeafLoadsCardSaid :=
  Claim7.holds_tied_plain_at .later [] [.handle] true _ true
    row_holds (fun _ h => by cases h) (by kernel_rfl) (fun _ h => by cases h) leafLoads_row_tie rfl ⟨rfl, rfl⟩ (by kernel_rfl) rfl
    (fun f fn hf hfn => by
      obtain rfl : f = 4 := Option.some.inj ((show Tryz.prog.funcNamed "tithe/tithelaw13.LeafLoads" = some 4 by kernel_rfl).symm.trans hf) |>.symm
      obtain rfl : fn = Tryz.f4 := (Option.some.inj (Tryz.func4.symm.trans hfn)).symm
      exact ⟨by kernel_rfl, fun j t ht => by
        rw [Tryz.params4] at ht
        have hm : t ∈ [44, 22] := by simpa using Array.mem_of_getElem? ht
        have hall : ([44, 22].all fun u => !Tryz.prog.wantsStandIn u) = true := by kernel_rfl
        exact (show Tryz.prog.wantsStandIn t = false by simpa using List.all_eq_true.1 hall t hm)⟩)
    (by kernel_rfl)
#print axioms card_holds
end lawZLoads
end Go.Proofs.YthbkinopgialmaaGreatDoor
