/- The walk of EdfDemands: whatever the items and the stretch, it answers true; no condition but that the items are at most 2^47 bytes. -/
import Derived.Test.YtfahpjilgdlhiaaWWorks
import Derived.Test.YtfahpjilgdlhiaaWFeas
namespace Go.Proofs.Ytfahpjilgdlhiaa
open Go.RowKit Edf

theorem fout2_form (er : Int) (r : Option (Nat × Nat)) : ∃ (b : Bool) (x y : Int), ∀ c, fout2 er r c = .tuple #[.bool b, .int .i64 x, .int .i64 y, c] := by
  unfold fout2
  by_cases h : er = 0
  · cases r with
    | none => exact ⟨true, 0, 0, fun c => by rw [if_pos h]; rfl⟩
    | some p => exact ⟨false, p.1, p.2, fun c => by rw [if_pos h]; rfl⟩
  · exact ⟨false, 0, 0, fun c => by rw [if_neg h]⟩
set_option maxHeartbeats 4000000 in
set_option maxRecDepth 100000 in
theorem demands_any (w : World) (v : Value) (n : Nat) (f : Nat → Tri) (a b : Int) (h : Tris w v n f) (hn : n * 24 ≤ 140737488355328) : Calls Try.prog 6 #[v, .int .i64 a, .int .i64 b] w fun e w' => e = .returned (.bool true) ∧ Below w.heap.size w w' := by
  obtain ⟨N, hN⟩ : ∃ N : Int, N = if 40 < b ∧ b ≤ 256 then 40 else b := ⟨_, rfl⟩
  obtain ⟨r, hr⟩ : ∃ r, FRes n f N r := by
    obtain ⟨r, hr⟩ := fb_ex (Bad (itI n f) n) N.toNat
    exact ⟨r, fun _ => hr⟩
  obtain ⟨fb, fx, fy, hform⟩ := fout2_form (fE n f N) r
  have HV := Lib.hid (fun W (hb : Below w.heap.size w W) => h.below hb)
  have HI := Lib.hid (fun W (hb : Below w.heap.size w W) => items_any W v n f (h.below hb) hn)
  have HD := Lib.hid (fun W u hu => Demand_any W u n f hu a b)
  have HR := Lib.hid (fun W (hb : Below w.heap.size w W) => rdemand_any W v n f (h.below hb) a b)
  have HF := Lib.hid (fun W u hu => feas_any W u n f hu N r hr)
  have HRF := Lib.hid (fun W (hb : Below w.heap.size w W) => rfeas_any W v n f (h.below hb) N r hr)
  rw [hform] at HF HRF
  have HNU := Lib.hid (fun n w => num_any n w)
  have HW := Lib.hid (fun w => works_any w)
  have hn2 : n ≤ 9223372036854775807 := by omega
  obtain ⟨p0, cap0, rfl, _, _⟩ := h
  clear hr hform
  generalize dV n f a b = dd at *
  generalize dE n f a b = de at *
  generalize fE n f N = fe at *
  by_cases hb : 40 < b ∧ b ≤ 256
  · rw [if_pos hb] at hN
    subst hN
    obtain ⟨hb1, hb2⟩ := hb
    go_enter Try.func6, Try.ntmps6
    go_wp2_with fail
    refine (HI.out _ (Below.refl _ _)).mono ?_
    rintro e w1 ⟨u1, rfl, ho1, hb1⟩
    have HT1 := Lib.hid (own_tris ho1 hn2)
    have HB1 := Lib.hid hb1
    clear ho1 hb1
    go_wp2_with fail
    refine (HD.out _ _ HT1.out).mono ?_
    rintro e w2 ⟨rfl, hb2⟩
    have HB2 := Lib.hid (bnext HB1.out hb2)
    clear hb2
    go_wp2_with fail
    refine (HR.out _ HB2.out).mono ?_
    rintro e w3 ⟨rfl, hb3⟩
    have HB3 := Lib.hid (bnext HB2.out hb3)
    clear hb3
    go_wp2_with fail
    refine (HI.out _ HB3.out).mono ?_
    rintro e w4 ⟨u4, rfl, ho4, hb4⟩
    have HT4 := Lib.hid (own_tris ho4 hn2)
    have HB4 := Lib.hid (bnext HB3.out hb4)
    clear ho4 hb4
    go_wp2_with fail
    refine (HF.out _ _ HT4.out).mono ?_
    rintro e w5 ⟨rfl, hb5⟩
    have HB5 := Lib.hid (bnext HB4.out hb5)
    clear hb5
    go_wp2_with fail
    refine (HRF.out _ HB5.out).mono ?_
    rintro e w6 ⟨rfl, hb6⟩
    have HB6 := Lib.hid (bnext HB5.out hb6)
    clear hb6
    go_wp2_with fail
    refine (HNU.out _ _).mono ?_
    rintro e w7 ⟨rfl, rfl⟩
    go_wp2_with fail
    refine (HNU.out _ _).mono ?_
    rintro e w8 ⟨rfl, rfl⟩
    go_wp2_with fail
    refine (HW.out _).mono ?_
    rintro e w9 ⟨rfl, hb9⟩
    have HB9 := Lib.hid (bnext HB6.out hb9)
    clear hb9
    go_wp2_with fail
    go_ret
    exact ⟨rfl, HB9.out⟩
  · rw [if_neg hb] at hN
    subst hN
    by_cases hb1 : 40 < N
    · have hb2 : 256 < N := by omega
      clear hb
      go_enter Try.func6, Try.ntmps6
      go_wp2_with fail
      refine (HI.out _ (Below.refl _ _)).mono ?_
      rintro e w1 ⟨u1, rfl, ho1, hb1⟩
      have HT1 := Lib.hid (own_tris ho1 hn2)
      have HB1 := Lib.hid hb1
      clear ho1 hb1
      go_wp2_with fail
      refine (HD.out _ _ HT1.out).mono ?_
      rintro e w2 ⟨rfl, hb2⟩
      have HB2 := Lib.hid (bnext HB1.out hb2)
      clear hb2
      go_wp2_with fail
      refine (HR.out _ HB2.out).mono ?_
      rintro e w3 ⟨rfl, hb3⟩
      have HB3 := Lib.hid (bnext HB2.out hb3)
      clear hb3
      go_wp2_with fail
      refine (HI.out _ HB3.out).mono ?_
      rintro e w4 ⟨u4, rfl, ho4, hb4⟩
      have HT4 := Lib.hid (own_tris ho4 hn2)
      have HB4 := Lib.hid (bnext HB3.out hb4)
      clear ho4 hb4
      go_wp2_with fail
      refine (HF.out _ _ HT4.out).mono ?_
      rintro e w5 ⟨rfl, hb5⟩
      have HB5 := Lib.hid (bnext HB4.out hb5)
      clear hb5
      go_wp2_with fail
      refine (HRF.out _ HB5.out).mono ?_
      rintro e w6 ⟨rfl, hb6⟩
      have HB6 := Lib.hid (bnext HB5.out hb6)
      clear hb6
      go_wp2_with fail
      refine (HNU.out _ _).mono ?_
      rintro e w7 ⟨rfl, rfl⟩
      go_wp2_with fail
      refine (HNU.out _ _).mono ?_
      rintro e w8 ⟨rfl, rfl⟩
      go_wp2_with fail
      refine (HW.out _).mono ?_
      rintro e w9 ⟨rfl, hb9⟩
      have HB9 := Lib.hid (bnext HB6.out hb9)
      clear hb9
      go_wp2_with fail
      go_ret
      exact ⟨rfl, HB9.out⟩
    · clear hb
      go_enter Try.func6, Try.ntmps6
      go_wp2_with fail
      refine (HI.out _ (Below.refl _ _)).mono ?_
      rintro e w1 ⟨u1, rfl, ho1, hb1⟩
      have HT1 := Lib.hid (own_tris ho1 hn2)
      have HB1 := Lib.hid hb1
      clear ho1 hb1
      go_wp2_with fail
      refine (HD.out _ _ HT1.out).mono ?_
      rintro e w2 ⟨rfl, hb2⟩
      have HB2 := Lib.hid (bnext HB1.out hb2)
      clear hb2
      go_wp2_with fail
      refine (HR.out _ HB2.out).mono ?_
      rintro e w3 ⟨rfl, hb3⟩
      have HB3 := Lib.hid (bnext HB2.out hb3)
      clear hb3
      go_wp2_with fail
      refine (HI.out _ HB3.out).mono ?_
      rintro e w4 ⟨u4, rfl, ho4, hb4⟩
      have HT4 := Lib.hid (own_tris ho4 hn2)
      have HB4 := Lib.hid (bnext HB3.out hb4)
      clear ho4 hb4
      go_wp2_with fail
      refine (HF.out _ _ HT4.out).mono ?_
      rintro e w5 ⟨rfl, hb5⟩
      have HB5 := Lib.hid (bnext HB4.out hb5)
      clear hb5
      go_wp2_with fail
      refine (HRF.out _ HB5.out).mono ?_
      rintro e w6 ⟨rfl, hb6⟩
      have HB6 := Lib.hid (bnext HB5.out hb6)
      clear hb6
      go_wp2_with fail
      refine (HNU.out _ _).mono ?_
      rintro e w7 ⟨rfl, rfl⟩
      go_wp2_with fail
      refine (HNU.out _ _).mono ?_
      rintro e w8 ⟨rfl, rfl⟩
      go_wp2_with fail
      refine (HW.out _).mono ?_
      rintro e w9 ⟨rfl, hb9⟩
      have HB9 := Lib.hid (bnext HB6.out hb9)
      clear hb9
      go_wp2_with fail
      go_ret
      exact ⟨rfl, HB9.out⟩
end Go.Proofs.Ytfahpjilgdlhiaa
