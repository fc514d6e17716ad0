/- The walk of EdfPlans: whatever the items and the ticks, it answers true; no condition but that the items are at most 2^47 bytes. -/
import Derived.Test.YtfahpjilgdlhiaaWWorks
import Derived.Test.YtfahpjilgdlhiaaWRPlan
import Derived.Test.YtfahpjilgdlhiaaWLawA
namespace Go.Proofs.Ytfahpjilgdlhiaa
open Go.RowKit Edf

theorem pN_le (n : Nat) (f : Nat → Tri) (N : Int) : pN n f N ≤ 4096 := by
  unfold pN
  split
  · rename_i h
    by_cases hN : 0 ≤ N ∧ N ≤ 4096
    · omega
    · have : pE n f N = 1 := if_neg hN
      omega
  · omega
set_option maxHeartbeats 4000000 in
set_option maxRecDepth 100000 in
theorem plans_any (w : World) (v : Value) (n : Nat) (f : Nat → Tri) (N : Int) (h : Tris w v n f) (hn : n * 24 ≤ 140737488355328) : Calls Try.prog 4 #[v, .int .i64 N] w fun e w' => e = .returned (.bool true) ∧ Below w.heap.size w w' := by
  have HV := Lib.hid (fun W (hb : Below w.heap.size w W) => h.below hb)
  have HI := Lib.hid (fun W (hb : Below w.heap.size w W) => items_any W v n f (h.below hb) hn)
  have HP := Lib.hid (fun W u (hu : Tris W u n f) => plan_any W u n f hu N)
  have HR := Lib.hid (fun W (hb : Below w.heap.size w W) => rplan_any W v n f (h.below hb) N)
  have HVE := Lib.hid (fun W u (hu : Tris W u n f) => valid_any W u n f hu)
  have HRV := Lib.hid (fun W (hb : Below w.heap.size w W) => rvalid_any W v n f (h.below hb))
  have HNU := Lib.hid (fun n w => num_any n w)
  have HW := Lib.hid (fun w => works_any w)
  have hn2 : n ≤ 9223372036854775807 := by omega
  have hmn : pN n f N ≤ 9223372036854775807 := by have := pN_le n f N; omega
  obtain ⟨p0, cap0, rfl, _, _⟩ := h
  generalize pN n f N = k at *
  generalize pE n f N = er at *
  generalize plz (itI n f) n = mg at *
  generalize vE n f = ev at *
  go_enter Try.func4, Try.ntmps4
  go_wp2_with fail
  refine (HI.out _ (Below.refl _ _)).mono ?_
  rintro e w2 ⟨u2, rfl, ho2, hb2⟩
  have HT2 := Lib.hid (own_tris ho2 hn2)
  have HB2 := Lib.hid hb2
  clear ho2 hb2
  go_wp2_with fail
  refine (HP.out _ _ HT2.out).mono ?_
  intro e w3 hpost
  obtain ⟨p3, cap3, rfl, _, hn3, hb3⟩ := hpost.one hmn
  have HN3 := Lib.hid hn3
  have HB3 := Lib.hid (bnext HB2.out hb3)
  clear hpost hn3 hb3 HT2
  go_wp2_with fail
  refine (HR.out _ HB3.out).mono ?_
  intro e w4 hpost
  obtain ⟨p4, cap4, rfl, _, hn4, hb4⟩ := hpost.one hmn
  have HN4 := Lib.hid hn4
  have HN3 := Lib.hid (HN3.out.below hb4)
  have HB4 := Lib.hid (bnext HB3.out hb4)
  clear hpost hn4 hb4
  go_wp2_with fail
  refine (same_yes _ _ _ k _ HN3.out HN4.out).mono ?_
  rintro e w5 ⟨rfl, hb5⟩
  have HB5 := Lib.hid (bnext HB4.out hb5)
  clear hb5 HN3 HN4
  go_wp2_with fail
  refine (HNU.out _ _).mono ?_
  rintro e w6 ⟨rfl, rfl⟩
  go_wp2_with fail
  refine (HI.out _ HB5.out).mono ?_
  rintro e w7 ⟨u7, rfl, ho7, hb7⟩
  have HT7 := Lib.hid (own_tris ho7 hn2)
  have HB7 := Lib.hid (bnext HB5.out hb7)
  clear ho7 hb7
  go_wp2_with fail
  refine (HVE.out _ _ HT7.out).mono ?_
  rintro e w8 ⟨rfl, hb8⟩
  have HB8 := Lib.hid (bnext HB7.out hb8)
  clear hb8 HT7
  go_wp2_with fail
  refine (HNU.out _ _).mono ?_
  rintro e w9 ⟨rfl, rfl⟩
  go_wp2_with fail
  refine (HRV.out _ HB8.out).mono ?_
  rintro e w10 ⟨rfl, hb10⟩
  have HB10 := Lib.hid (bnext HB8.out hb10)
  clear hb10
  go_wp2_with fail
  refine (HW.out _).mono ?_
  rintro e w11 ⟨rfl, hb11⟩
  have HB11 := Lib.hid (bnext HB10.out hb11)
  clear hb11
  go_wp2_with fail
  go_ret
  exact ⟨rfl, HB11.out⟩
end Go.Proofs.Ytfahpjilgdlhiaa
