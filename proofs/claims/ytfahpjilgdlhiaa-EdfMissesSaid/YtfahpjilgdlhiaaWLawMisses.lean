/- The walk of EdfMisses: whatever the items and the plan, it answers true; no condition but that each is at most 2^47 bytes. -/
import Derived.Test.YtfahpjilgdlhiaaWWorks
import Derived.Test.YtfahpjilgdlhiaaWMissR
import Derived.Test.YtfahpjilgdlhiaaWApp
namespace Go.Proofs.Ytfahpjilgdlhiaa
open Go.RowKit Edf

set_option maxHeartbeats 4000000 in
set_option maxRecDepth 100000 in
theorem misses_any (w : World) (v : Value) (n : Nat) (f : Nat → Tri) (pv : Value) (N : Nat) (g : Nat → Int) (h : Tris w v n f) (hp : Nums w pv N g) (hn : n * 24 ≤ 140737488355328) (hN : N * 8 ≤ 140737488355328) : Calls Try.prog 5 #[v, pv] w fun e w' => e = .returned (.bool true) ∧ Below w.heap.size w w' := by
  have HV := Lib.hid (fun W (hb : Below w.heap.size w W) => h.below hb)
  have HPL := Lib.hid (fun W (hb : Below w.heap.size w W) => hp.below hb)
  have HI := Lib.hid (fun W (hb : Below w.heap.size w W) => items_any W v n f (h.below hb) hn)
  have HM := Lib.hid (fun W u hu p0 cap0 hp hc => missed_any W u n f hu p0 N cap0 g hp hc)
  have HR := Lib.hid (fun W (hb : Below w.heap.size w W) => rmissed_any W v n f (h.below hb) pv N g (hp.below hb))
  have HNU := Lib.hid (fun n w => num_any n w)
  have HW := Lib.hid (fun w => works_any w)
  have hn2 : n ≤ 9223372036854775807 := by omega
  have hmn : mN n f N g ≤ 9223372036854775807 := by unfold mN; split <;> omega
  have HSP := Lib.hid (src_nums hp)
  obtain ⟨p0, cap0, rfl, _, _⟩ := h
  obtain ⟨p1, cap1, rfl, hm1, _⟩ := hp
  generalize mN n f N g = k at *
  generalize mE n f N g = er at *
  generalize mG n f N g = mg at *
  go_enter Try.func5, Try.ntmps5
  go_wp2_with (at_builtin; refine wpList_append_ints rfl _ _ rfl w.heap.size _ 0 (numL g 0) rfl (nil_nums w.heap.size w g) _ N (numL g N) rfl HSP.out (numL_one g N) (by omega) (Nat.le_refl _) ?_)
  intro p2 cap2 w1 hown1 hgrow1 hat1
  have HO1 := Lib.hid (show NumsO w.heap.size w1 (.slice p2 N cap2) N g from hown1)
  have hcap2 : N ≤ cap2 := by obtain ⟨_, _, e, hc⟩ := own_small hown1; cases e; exact hc
  have HB1 := Lib.hid ((Below.refl w.heap.size w).grown hgrow1 (Nat.le_refl _) (fun k e => by cases e))
  clear hown1 hgrow1 hat1
  go_wp2_with fail
  refine (HI.out _ HB1.out).mono ?_
  rintro e w2 ⟨u2, rfl, ho2, hb2⟩
  have HT2 := Lib.hid (own_tris ho2 hn2)
  have HO2 := Lib.hid (own_nums (own_under HO1.out hb2) hm1)
  have HB2 := Lib.hid (bnext HB1.out hb2)
  clear ho2 hb2 HO1
  go_wp2_with fail
  refine (HM.out _ _ HT2.out p2 cap2 HO2.out hcap2).mono ?_
  intro e w3 hpost
  obtain ⟨p3, cap3, rfl, _, hn3, hb3⟩ := hpost.one hmn
  have HN3 := Lib.hid hn3
  have HO3 := Lib.hid (HO2.out.below hb3)
  have HB3 := Lib.hid (bnext HB2.out hb3)
  clear hpost hn3 hb3 HO2 HT2
  go_wp2_with fail
  refine (HR.out _ HB3.out).mono ?_
  intro e w4 hpost
  obtain ⟨p4, cap4, rfl, _, hn4, hb4⟩ := hpost.one hmn
  have HN4 := Lib.hid hn4
  have HN3 := Lib.hid (HN3.out.below hb4)
  have HO4 := Lib.hid (HO3.out.below hb4)
  have HB4 := Lib.hid (bnext HB3.out hb4)
  clear hpost hn4 hb4 HO3
  go_wp2_with fail
  refine (same_yes _ _ _ k _ HN3.out HN4.out).mono ?_
  rintro e w5 ⟨rfl, hb5⟩
  have HO5 := Lib.hid (HO4.out.below hb5)
  have HB5 := Lib.hid (bnext HB4.out hb5)
  clear hb5 HN3 HN4 HO4
  go_wp2_with fail
  refine (HNU.out _ _).mono ?_
  rintro e w6 ⟨rfl, rfl⟩
  go_wp2_with fail
  refine (same_yes _ _ _ N _ HO5.out (HPL.out _ HB5.out)).mono ?_
  rintro e w7 ⟨rfl, hb7⟩
  have HB7 := Lib.hid (bnext HB5.out hb7)
  clear hb7 HO5
  go_wp2_with fail
  refine (HW.out _).mono ?_
  rintro e w8 ⟨rfl, hb8⟩
  have HB8 := Lib.hid (bnext HB7.out hb8)
  clear hb8
  go_wp2_with fail
  go_ret
  exact ⟨rfl, HB8.out⟩
end Go.Proofs.Ytfahpjilgdlhiaa
