/- The law TaskMakes: it answers true, whatever the input; no condition but what the rows' listed variables hold. -/
import Derived.Test.YtpfhebfkhailfaaDoorUWorks
import Derived.Test.YtpfhebfkhailfaaDoorUSame
import Derived.Test.YtpfhebfkhailfaaDoorUShow
namespace Go.Proofs.YtpfhebfkhailfaaDoor
open Go.RowKit Go.Shelf Tsk

theorem keepB {W0 w1 w2 : World} (hb : Below w1.heap.size w1 w2) (hB : Below W0.heap.size W0 w1) : (∀ b o, b < W0.heap.size → w2.cell? ⟨b, o, none⟩ = W0.cell? ⟨b, o, none⟩) ∧ Below W0.heap.size W0 w2 :=
  ⟨fun _ _ hlt => (bnext hB hb).cell hlt, bnext hB hb⟩
theorem keepS (W0 : World) : (∀ b o, b < W0.heap.size → W0.drew.cell? ⟨b, o, none⟩ = W0.cell? ⟨b, o, none⟩) ∧ Below W0.heap.size W0 W0.drew := ⟨fun _ _ _ => rfl, below_drewOne⟩
set_option maxHeartbeats 4000000 in
set_option maxRecDepth 100000 in
theorem makes_any (prio : Int) (pa : Int) (sa : Value) (na : Nat) (fa : Nat → Jb) (ka : Ac) (pb : Int) (sb : Value) (nb : Nat) (fb : Nat → Jb) (kb : Ac) (w : World) (hg : LaidAt w) (ha : Jobs w sa na fa) (hca : ka.c ≤ 9223372036854775807) (hna : na * 32 ≤ 140737488355328) (hb : Jobs w sb nb fb) (_ : kb.c ≤ 9223372036854775807) (_ : nb * 32 ≤ 140737488355328) :
    Calls Tryd.prog 3 #[.int .i64 prio, tV pa sa ka, tV pb sb kb] w fun e w' => e = .returned (.bool true) ∧ Below w.heap.size w w' := by
  have HG := Lib.hid hg
  have HA := Lib.hid ha
  have HB' := Lib.hid hb
  have HP : ∃ P E, Hid (∀ w, Calls Tryd.prog 10 #[.int .i64 prio] w fun e w' => e = .returned (.tuple #[tV P (.slice none 0 0) kZ, errV E]) ∧ Below w.heap.size w w') ∧ Hid (∀ w, Calls Tryd.prog 11 #[.int .i64 prio] w fun e w' => e = .returned (.tuple #[tV P (.slice none 0 0) kZ, .int .i64 E]) ∧ Below w.heap.size w w') := by
    by_cases h : 0 ≤ prio ∧ prio ≤ 31
    · exact ⟨prio, 0, fun w => pnew_ok prio w h, fun w => rnew_ok prio w h⟩
    · exact ⟨0, 2, fun w => pnew_no prio w h, fun w => rnew_no prio w h⟩
  obtain ⟨P, E, HPN, HRN⟩ := HP
  have HSM := Lib.hid (fun (W : World) => (same_any P (.slice none 0 0) 0 (fun _ => ⟨0, 0, 0, 0⟩) kZ P (.slice none 0 0) 0 (fun _ => ⟨0, 0, 0, 0⟩) kZ W (jobs0 W _) (jobs0 W _)))
  rw [same_yes (fun i hi => by omega)] at HSM
  have HVA := Lib.hid (fun (W : World) (hb : Below w.heap.size w W) => pvalid pa sa na fa ka W (ha.below hb) hca)
  have HVR := Lib.hid (fun (W : World) (hb : Below w.heap.size w W) => rvalid pa sa na fa ka W (ha.below hb))
  have HSA := Lib.hid (fun (W : World) (hb : Below w.heap.size w W) => pshow_any pa sa na fa ka W (ha.below hb) hca (hg.below hb))
  have HSR := Lib.hid (fun (W : World) (hb : Below w.heap.size w W) => rtext_any pa sa na fa ka W (ha.below hb))
  have HEA := Lib.hid (fun (W : World) (h : Below w.heap.size w W) => psame_any pa sa na fa ka pb sb nb fb kb W (ha.below h) (hb.below h))
  have HER := Lib.hid (fun (W : World) (h : Below w.heap.size w W) => rsame_any pa sa na fa ka pb sb nb fb kb W (ha.below h) (hb.below h))
  have HTW := Lib.hid (fun (W : World) (h : Below w.heap.size w W) => rtwin pa sa na fa ka W (ha.below h) hna)
  have HET := Lib.hid (fun (W : World) (h : Below w.heap.size w W) (s : Option Addr) (c : Nat) (hj : Jobs W (.slice s na c) na fa) => psame_any pa sa na fa ka pa (.slice s na c) na fa ka W (ha.below h) hj)
  rw [same_yes (fun i hi => rfl)] at HET
  have HWK := Lib.hid (fun (W : World) (h : Below w.heap.size w W) => works_any W (hg.below h))
  generalize validE pa na fa ka = V at *
  generalize (if okT pa na fa ka then textS pa ka fa na else []) = TX at *
  generalize decide (sameT pa na fa ka pb nb fb kb) = D at *
  obtain ⟨qa, ca, rfl, hn63, _⟩ := ha
  obtain ⟨qb, cb, rfl, _, _⟩ := hb
  obtain ⟨ag, ao, an, ad, ac, at_⟩ := ka
  obtain ⟨bg, bo, bn, bd, bc, bt⟩ := kb
  clear hg hca
  obtain ⟨WA, hWA⟩ : ∃ WA, WA = (w.alloc (.cells #[.int .i64 pa, .slice qa na ca, .int .i64 ag, .int .i64 ao, .int .i64 an, .int .i64 ad, .int .i64 ac, .int .i64 at_] KT)).alloc (.cells #[.int .i64 pb, .slice qb nb cb, .int .i64 bg, .int .i64 bo, .int .i64 bn, .int .i64 bd, .int .i64 bc, .int .i64 bt] KT) := ⟨_, rfl⟩
  have HB := Lib.hid (show Below w.heap.size w WA from by rw [hWA]; exact ((Below.refl _ _).alloc (Nat.le_refl _) _).alloc (by simp) _)
  have HT := Lib.hid (show HasT WA w.heap.size pa (.slice qa na ca) ⟨ag, ao, an, ad, ac, at_⟩ ∧ HasT WA (w.heap.size + 1) pb (.slice qb nb cb) ⟨bg, bo, bn, bd, bc, bt⟩ from by rw [hWA]; exact ⟨has_old (has_new w _ _ rfl) _, has_new _ _ _ (by simp)⟩)
  have HW := Lib.hid hWA
  clear hWA
  go_enter Tryd.func3, Tryd.ntmps3
  go_wp2_with fail
  rw [← HW.out]
  refine (HPN.out WA).mono ?_
  rintro e w1 ⟨rfl, hb1⟩
  obtain ⟨W1, hW1⟩ : ∃ W1, W1 = w1.alloc (.cells #[.int .i64 P, .slice none 0 0, .int .i64 0, .int .i64 0, .int .i64 0, .int .i64 0, .int .i64 0, .int .i64 0] KT) := ⟨_, rfl⟩
  have hbw1 : Below WA.heap.size WA W1 := by rw [hW1]; exact hb1.alloc hb1.size _
  have HB1 := Lib.hid (bnext HB.out hbw1)
  have HT1 := Lib.hid (show (HasT W1 w.heap.size pa (.slice qa na ca) ⟨ag, ao, an, ad, ac, at_⟩ ∧ HasT W1 (w.heap.size + 1) pb (.slice qb nb cb) ⟨bg, bo, bn, bd, bc, bt⟩) ∧ HasT W1 w1.heap.size P (.slice none 0 0) kZ from ⟨⟨HT.out.1.below hbw1, HT.out.2.below hbw1⟩, by rw [hW1]; exact has_new _ _ _ rfl⟩)
  have HW1 := Lib.hid hW1
  clear hW1 hb1 hbw1
  go_wp2_with fail
  rw [← HW1.out]
  refine (HRN.out W1).mono ?_
  rintro e w2 ⟨rfl, hb2⟩
  obtain ⟨W2, hW2⟩ : ∃ W2, W2 = w2.alloc (.cells #[.int .i64 P, .slice none 0 0, .int .i64 0, .int .i64 0, .int .i64 0, .int .i64 0, .int .i64 0, .int .i64 0] KT) := ⟨_, rfl⟩
  have hbw2 : Below W1.heap.size W1 W2 := by rw [hW2]; exact hb2.alloc hb2.size _
  have HB2 := Lib.hid (bnext HB1.out hbw2)
  have HT2 := Lib.hid (show ((HasT W2 w.heap.size pa (.slice qa na ca) ⟨ag, ao, an, ad, ac, at_⟩ ∧ HasT W2 (w.heap.size + 1) pb (.slice qb nb cb) ⟨bg, bo, bn, bd, bc, bt⟩) ∧ HasT W2 w1.heap.size P (.slice none 0 0) kZ) ∧ HasT W2 w2.heap.size P (.slice none 0 0) kZ from ⟨⟨⟨HT1.out.1.1.below hbw2, HT1.out.1.2.below hbw2⟩, HT1.out.2.below hbw2⟩, by rw [hW2]; exact has_new _ _ _ rfl⟩)
  have HW2 := Lib.hid hW2
  clear hW2 hb2 hbw2
  go_upto_region 3 with fail
  rw [← HW2.out]
  obtain ⟨a0, a1, a2, a3, a4, a5, a6, a7⟩ := HT2.out.1.1.1.cells
  obtain ⟨b0, b1, b2, b3, b4, b5, b6, b7⟩ := HT2.out.1.1.2.cells
  obtain ⟨t0, t1, t2, t3, t4, t5, t6, t7⟩ := HT2.out.1.2.cells
  obtain ⟨u0, u1, u2, u3, u4, u5, u6, u7⟩ := HT2.out.2.cells
  have la : w.heap.size < W2.heap.size := has_lt HT2.out.1.1.1
  have lb : w.heap.size + 1 < W2.heap.size := has_lt HT2.out.1.1.2
  have lt : w1.heap.size < W2.heap.size := has_lt HT2.out.1.2
  have lu : w2.heap.size < W2.heap.size := has_lt HT2.out.2
  have HBW := Lib.hid (fun (W : World) (h : Below W2.heap.size W2 W) => bnext HB2.out h)
  go_region_held3 (fun w' => (∀ b o, b < W2.heap.size → w'.cell? ⟨b, o, none⟩ = W2.cell? ⟨b, o, none⟩) ∧ Below W2.heap.size W2 w')
    (first
      | (go_split_ands; exact keepB hb (by assumption))
      | exact keepS W2
      | (go_split_ands; exact ⟨by assumption, by assumption⟩)
      | go_keep)
    (first
      | (go_at_call 12; refine (HSM.out _).mono ?_; rintro e w' ⟨rfl, hb⟩)
      | (go_at_call 13; (first | (with_reducible refine (num_errV E _).mono ?_) | (with_reducible refine (num_errV V _).mono ?_)); rintro e w' ⟨rfl, rfl⟩)
      | (go_at_call 14; refine (HVA.out _ (HBW.out _ (by go_split_ands; assumption))).mono ?_; rintro e w' ⟨rfl, hb⟩)
      | (go_at_call 15; refine (HVR.out _ (HBW.out _ (by go_split_ands; assumption))).mono ?_; rintro e w' ⟨rfl, hb⟩)
      | (go_at_call 16; refine (HSA.out _ (HBW.out _ (by go_split_ands; assumption))).mono ?_; rintro e w' ⟨rfl, hb⟩)
      | (go_at_call 17; refine (HSR.out _ (HBW.out _ (by go_split_ands; assumption))).mono ?_; rintro e w' ⟨rfl, hb⟩)
      | (go_at_call 19; refine (HER.out _ (HBW.out _ (by go_split_ands; assumption))).mono ?_; rintro e w' ⟨rfl, hb⟩)
      | (go_at_call 20; refine (HTW.out _ (HBW.out _ (by go_split_ands; assumption))).mono ?_; rintro e w' ⟨x, rfl, s9, c9, rfl, ho9, hb⟩)
      | (go_at_call 18; (first | (with_reducible refine (HEA.out _ (HBW.out _ (by go_split_ands; assumption))).mono ?_) | (refine (HET.out _ (HBW.out _ (by go_split_ands; assumption)) s9 c9 (own_jobs ho9 hn63)).mono ?_)); rintro e w' ⟨rfl, hb⟩)
      | (go_at_call 21; refine (HWK.out _ (HBW.out _ (by go_split_ands; assumption))).mono ?_; rintro e w' ⟨rfl, hb⟩))
  all_goals
    go_split_ands
    go_wp2_with fail
    go_ret
    exact ⟨rfl, bnext HB2.out (by assumption)⟩
end Go.Proofs.YtpfhebfkhailfaaDoor
