/- The walk of EdfStretch (Horn): whatever the items and the number, it answers true; no condition but that the items are at most 2^47 bytes. -/
import Derived.Test.YtfahpjilgdlhiaaWLawBest
import Derived.Test.YtfahpjilgdlhiaaWFeas
namespace Go.Proofs.Ytfahpjilgdlhiaa
open Go.RowKit Edf

theorem tm_in (x m : Int) (h : 0 < m) : -m < x.tmod m ∧ x.tmod m < m := by
  refine ⟨Int.neg_lt_of_neg_lt ?_, Int.tmod_lt_of_pos _ h⟩
  have := Int.tmod_lt_of_pos (-x) (b := m) h
  rw [Int.neg_tmod] at this
  omega
theorem tm_nat (x m : Int) (h : 0 < m) : 0 ≤ (x.tmod m + m).tmod m ∧ (x.tmod m + m).tmod m < m := by
  have := tm_in x m h
  exact ⟨Int.tmod_nonneg _ (by omega), Int.tmod_lt_of_pos _ h⟩
theorem tm_mod (x m : Int) (h : 0 < m) : (x.tmod m + m) % m = (x.tmod m + m).tmod m := by
  have := tm_in x m h
  exact (Int.tmod_eq_emod_of_nonneg (by omega)).symm
theorem mod_nat (b : Int) (m : Nat) (h : 0 < m) (h2 : m ≤ 4096) : ∃ N : Nat, N < m ∧ (b.tmod m + m).tmod m = N ∧ (b.tmod m + m) % m = N ∧ IntKind.i64.wrap (b.tmod m + m) = b.tmod m + m ∧ -(m : Int) < b.tmod m ∧ b.tmod m < m := by
  have h1 := tm_in b m (by omega)
  have h3 := tm_nat b m (by omega)
  have h4 := tm_mod b m (by omega)
  refine ⟨((b.tmod m + m).tmod m).toNat, by omega, by omega, by omega, IntWalk.i64_in _ (by omega), h1.1, h1.2⟩
theorem horn_none {I : Nat → It} (hB : ∀ i, ItB (I i)) {n N : Nat} (h : FirstBad (Bad I n) N none) : someB (mV I N (plz I n)) n = false :=
  (meets_iff hB).2 (edf_meets (fun i => (hB i).ok) fun a b h1 h2 => by
    have := h a b h1 h2
    unfold Bad demN at this
    omega)
theorem horn_some {I : Nat → It} (hB : ∀ i, ItB (I i)) {n N : Nat} {p : Nat × Nat} (h : FirstBad (Bad I n) N (some p)) : someB (mV I N (plz I n)) n = true := by
  cases e : someB (mV I N (plz I n)) n with
  | true => rfl
  | false =>
    have h1 := meets_dem (fun i => (hB i).ok) ((meets_iff hB).1 e) h.1 h.2.1
    have h2 := h.2.2.1
    unfold Bad demN at h2
    omega
set_option maxHeartbeats 1000000 in
set_option maxRecDepth 100000 in
theorem stretch_any (w : World) (v : Value) (n : Nat) (f : Nat → Tri) (b : Int) (h : Tris w v n f) (hn : n * 24 ≤ 140737488355328) : Calls Try.prog 9 #[v, .int .i64 b] w fun e w' => e = .returned (.bool true) ∧ Below w.heap.size w w' := by
  obtain ⟨N, hN41, m1', m2', m3', m4', m5'⟩ := mod_nat b 41 (by omega) (by omega)
  have m1 : (b.tmod 41 + 41).tmod 41 = (N : Int) := m1'
  have m2 : (b.tmod 41 + 41) % 41 = (N : Int) := m2'
  have m3 : IntKind.i64.wrap (b.tmod 41 + 41) = b.tmod 41 + 41 := m3'
  have m4 : -41 < b.tmod 41 := m4'
  have m5 : b.tmod 41 < 41 := m5'
  clear m1' m2' m3' m4' m5'
  have HW := Lib.hid (fun w => works_any w)
  have HNU := Lib.hid (fun n w => num_any n w)
  have hn2 : n ≤ 9223372036854775807 := by omega
  have HI := Lib.hid (fun W (hb : Below w.heap.size w W) => items_any W v n f (h.below hb) hn)
  have HP := Lib.hid (fun W u hu => plan_any W u n f hu (N : Nat))
  have e3 : pE n f (N : Nat) = vE n f := if_pos ⟨by omega, by omega⟩
  have e4 : fE n f (N : Nat) = vE n f := if_pos ⟨by omega, by omega⟩
  obtain ⟨r, hr⟩ := fb_ex (Bad (itI n f) n) N
  have HF := Lib.hid (fun W u hu => feas_any W u n f hu (N : Nat) r (fun _ => by rw [Int.toNat_natCast]; exact hr))
  rw [e3] at HP
  rw [e4] at HF
  by_cases h0 : vE n f = 0
  · obtain ⟨h64, hB, hI⟩ := vE_ok h0
    have e5 : pN n f (N : Nat) = N := by unfold pN; rw [if_pos (e3.trans h0)]; exact Int.toNat_natCast N
    have e6 := mE_plz (f := f) (show N ≤ 4096 by omega) h0 (pOk_plz (itI n f) n N)
    obtain ⟨e7, e8⟩ := mG_0 e6
    have HR := Lib.hid (fun W (hb : Below w.heap.size w W) u hu => rmissed_any W v n f (h.below hb) u N (plz (itI n f) n) hu)
    rw [e6, e7, e8] at HR
    rw [h0, e5] at HP
    rw [h0] at HF
    have HS := Lib.hid (fun w u hu => some_any w u n (mV (itI n f) N (plz (itI n f) n)) hu)
    cases r with
    | none =>
      rw [horn_none hB hr] at HS
      rw [show fout2 0 none (errV 0) = .tuple #[.bool true, .int .i64 0, .int .i64 0, .nilIface] from rfl] at HF
      obtain ⟨p0, cap0, rfl, _, _⟩ := h
      generalize mV (itI n f) N (plz (itI n f) n) = mv at *
      generalize plz (itI n f) n = pz at *
      clear hr h0 h64 hB hI e3 e4 e5 e6 e7 e8
      go_enter Try.func9, Try.ntmps9
      go_wp2_with fail
      refine (HI.out _ (Below.refl _ _)).mono ?_
      rintro e w1 ⟨u1, rfl, ho1, hb1⟩
      have HT1 := Lib.hid (own_tris ho1 hn2)
      have HB1 := Lib.hid hb1
      clear ho1 hb1
      go_wp2_with fail
      refine (HP.out _ _ HT1.out).mono ?_
      intro e w2 hpost
      obtain ⟨p2, cap2, rfl, _, hn2', hb2⟩ := hpost.one (by omega)
      rw [errV_0]
      have HN2 := Lib.hid hn2'
      have HB2 := Lib.hid (bnext HB1.out hb2)
      clear hpost hn2' hb2 HT1
      go_wp2_with fail
      refine (HI.out _ HB2.out).mono ?_
      rintro e w3 ⟨u3, rfl, ho3, hb3⟩
      have HT3 := Lib.hid (own_tris ho3 hn2)
      have HN3 := Lib.hid (HN2.out.below hb3)
      have HB3 := Lib.hid (bnext HB2.out hb3)
      clear ho3 hb3 HN2
      go_wp2_with fail
      refine (HF.out _ _ HT3.out).mono ?_
      rintro e w4 ⟨rfl, hb4⟩
      have HN4 := Lib.hid (HN3.out.below hb4)
      have HB4 := Lib.hid (bnext HB3.out hb4)
      clear hb4 HN3 HT3
      go_wp2_with fail
      refine (HR.out _ HB4.out _ HN4.out).mono ?_
      intro e w5 hpost
      obtain ⟨p5, cap5, rfl, _, hn5, hb5⟩ := hpost.one hn2
      have HN5 := Lib.hid hn5
      have HB5 := Lib.hid (bnext HB4.out hb5)
      clear hpost hn5 hb5 HN4
      go_wp2_with fail
      refine (HS.out _ _ HN5.out).mono ?_
      rintro e w6 ⟨rfl, rfl⟩
      go_wp2_with fail
      refine (HW.out _).mono ?_
      rintro e w8 ⟨rfl, hb8⟩
      have HB8 := Lib.hid (bnext HB5.out hb8)
      clear hb8
      go_wp2_with fail
      go_ret
      exact ⟨rfl, HB8.out⟩
    | some p =>
      obtain ⟨x, y⟩ := p
      rw [horn_some hB hr] at HS
      rw [show fout2 0 (some (x, y)) (errV 0) = .tuple #[.bool false, .int .i64 (x : Nat), .int .i64 (y : Nat), .nilIface] from rfl] at HF
      obtain ⟨hxy, hyN, hbad, _, _⟩ := hr
      simp only at hxy hyN hbad
      have HD := Lib.hid (fun W u hu => Demand_any W u n f hu (x : Nat) (y : Nat))
      have e9 : dE n f (x : Nat) (y : Nat) = 0 := by unfold dE isT; rw [if_pos ⟨⟨by omega, by omega⟩, ⟨by omega, by omega⟩⟩, h0]
      have e10 : dV n f (x : Nat) (y : Nat) = (demN (itI n f) x y n : Nat) := by unfold dV; rw [if_pos e9, Int.toNat_natCast, Int.toNat_natCast]
      rw [e9, e10] at HD
      have hbad2 : (y : Int) - (x : Int) < (demN (itI n f) x y n : Nat) := by unfold Bad at hbad; omega
      have hx0 : (0 : Int) ≤ (x : Int) := by omega
      have hyN' : (y : Int) ≤ (N : Int) := by omega
      obtain ⟨p0, cap0, rfl, _, _⟩ := h
      generalize demN (itI n f) x y n = dd at *
      generalize mV (itI n f) N (plz (itI n f) n) = mv at *
      generalize plz (itI n f) n = pz at *
      clear hbad h0 h64 hB hI e3 e4 e5 e6 e7 e8 e9 e10
      go_enter Try.func9, Try.ntmps9
      go_wp2_with fail
      refine (HI.out _ (Below.refl _ _)).mono ?_
      rintro e w1 ⟨u1, rfl, ho1, hb1⟩
      have HT1 := Lib.hid (own_tris ho1 hn2)
      have HB1 := Lib.hid hb1
      clear ho1 hb1
      go_wp2_with fail
      refine (HP.out _ _ HT1.out).mono ?_
      intro e w2 hpost
      obtain ⟨p2, cap2, rfl, _, hn2', hb2⟩ := hpost.one (by omega)
      rw [errV_0]
      have HN2 := Lib.hid hn2'
      have HB2 := Lib.hid (bnext HB1.out hb2)
      clear hpost hn2' hb2 HT1
      go_wp2_with fail
      refine (HI.out _ HB2.out).mono ?_
      rintro e w3 ⟨u3, rfl, ho3, hb3⟩
      have HT3 := Lib.hid (own_tris ho3 hn2)
      have HN3 := Lib.hid (HN2.out.below hb3)
      have HB3 := Lib.hid (bnext HB2.out hb3)
      clear ho3 hb3 HN2
      go_wp2_with fail
      refine (HF.out _ _ HT3.out).mono ?_
      rintro e w4 ⟨rfl, hb4⟩
      have HN4 := Lib.hid (HN3.out.below hb4)
      have HB4 := Lib.hid (bnext HB3.out hb4)
      clear hb4 HN3 HT3
      go_wp2_with fail
      refine (HR.out _ HB4.out _ HN4.out).mono ?_
      intro e w5 hpost
      obtain ⟨p5, cap5, rfl, _, hn5, hb5⟩ := hpost.one hn2
      have HN5 := Lib.hid hn5
      have HB5 := Lib.hid (bnext HB4.out hb5)
      clear hpost hn5 hb5 HN4
      go_wp2_with fail
      refine (HS.out _ _ HN5.out).mono ?_
      rintro e w6 ⟨rfl, rfl⟩
      go_wp2_with fail
      refine (HI.out _ HB5.out).mono ?_
      rintro e w7 ⟨u7, rfl, ho7, hb7⟩
      have HT7 := Lib.hid (own_tris ho7 hn2)
      have HB7 := Lib.hid (bnext HB5.out hb7)
      clear ho7 hb7
      go_wp2_with fail
      refine (HD.out _ _ HT7.out).mono ?_
      rintro e w9 ⟨rfl, hb9⟩
      rw [errV_0]
      have HB9 := Lib.hid (bnext HB7.out hb9)
      clear hb9 HT7
      go_wp2_with fail
      refine (HW.out _).mono ?_
      rintro e w8 ⟨rfl, hb8⟩
      have HB8 := Lib.hid (bnext HB9.out hb8)
      clear hb8
      go_wp2_with fail
      go_ret
      exact ⟨rfl, HB8.out⟩
  · have HER := Lib.hid (errV_ne h0)
    have e5 : pN n f (N : Nat) = 0 := by unfold pN; rw [if_neg (fun k => h0 (e3 ▸ k))]
    rw [e5] at HP
    have e6 : ∀ c, fout2 (vE n f) r c = .tuple #[.bool false, .int .i64 0, .int .i64 0, c] := fun c => if_neg h0
    rw [e6] at HF
    obtain ⟨p0, cap0, rfl, _, _⟩ := h
    have HNE := Lib.hid (HNU.out (vE n f))
    rw [HER.out] at HNE HP HF
    generalize plz (itI n f) n = pz at *
    generalize vE n f = er at *
    clear hr h0 e3 e4 e5 e6
    go_enter Try.func9, Try.ntmps9
    go_wp2_with fail
    refine (HI.out _ (Below.refl _ _)).mono ?_
    rintro e w1 ⟨u1, rfl, ho1, hb1⟩
    have HT1 := Lib.hid (own_tris ho1 hn2)
    have HB1 := Lib.hid hb1
    clear ho1 hb1
    go_wp2_with fail
    refine (HP.out _ _ HT1.out).mono ?_
    intro e w2 hpost
    obtain ⟨p2, cap2, rfl, _, _, hb2⟩ := hpost.one (by omega)
    have HB2 := Lib.hid (bnext HB1.out hb2)
    clear hpost hb2 HT1
    go_wp2_with fail
    refine (HI.out _ HB2.out).mono ?_
    rintro e w3 ⟨u3, rfl, ho3, hb3⟩
    have HT3 := Lib.hid (own_tris ho3 hn2)
    have HB3 := Lib.hid (bnext HB2.out hb3)
    clear ho3 hb3
    go_wp2_with fail
    refine (HF.out _ _ HT3.out).mono ?_
    rintro e w4 ⟨rfl, hb4⟩
    have HB4 := Lib.hid (bnext HB3.out hb4)
    clear hb4 HT3
    go_wp2_with fail
    refine (HNE.out _).mono ?_
    rintro e w5 ⟨rfl, rfl⟩
    go_wp2_with fail
    refine (HNE.out _).mono ?_
    rintro e w5 ⟨rfl, rfl⟩
    go_wp2_with fail
    refine (HW.out _).mono ?_
    rintro e w8 ⟨rfl, hb8⟩
    have HB8 := Lib.hid (bnext HB4.out hb8)
    clear hb8
    go_wp2_with fail
    go_ret
    exact ⟨rfl, HB8.out⟩
end Go.Proofs.Ytfahpjilgdlhiaa
