/- The laws' own works: it answers true; no condition. -/
import Derived.Test.YtfahpjilgdlhiaaWLawA
import Derived.Test.YtfahpjilgdlhiaaWDemB
namespace Go.Proofs.Ytfahpjilgdlhiaa
open Go.RowKit Edf

/-- A slice literal of numbers, of structs of three numbers. -/
def gI (L : List Int) (i : Nat) : Int := L.getD i 0
def gT (L : List Tri) (i : Nat) : Tri := L.getD i ⟨0, 0, 0⟩
theorem lit_nums {W : World} {g : Nat} {T : TypeId} (L : List Int) {cs : Array Value} (h : Has W g (.cells cs T (0, 0))) (hc : cs = (L.map fun z => Value.int .i64 z).toArray) (hl : L.length ≤ 64) : Nums W (.slice (some ⟨g, 0, none⟩) L.length L.length) L.length (gI L) := by
  subst hc
  refine ⟨_, _, rfl, by omega, fun j hj => ⟨g, 0, rfl, ?_⟩⟩
  rw [has_cell h, Nat.zero_add]
  simp [gI, hj]
theorem lit_tris1 {W : World} {g : Nat} {T : TypeId} (x : Tri) (h : Has W g (.cells #[.int .i64 x.a, .int .i64 x.b, .int .i64 x.c] T (0, 0))) : Tris W (.slice (some ⟨g, 0, none⟩) 1 1) 1 (gT [x]) := by
  refine ⟨_, _, rfl, by omega, fun j hj => ⟨g, 0, rfl, ?_⟩⟩
  obtain rfl : j = 0 := by omega
  exact ⟨has_cell h 0, has_cell h 1, has_cell h 2⟩
theorem lit_tris2 {W : World} {g : Nat} {T : TypeId} (x y : Tri) (h : Has W g (.cells #[.int .i64 x.a, .int .i64 x.b, .int .i64 x.c, .int .i64 y.a, .int .i64 y.b, .int .i64 y.c] T (0, 0))) : Tris W (.slice (some ⟨g, 0, none⟩) 2 2) 2 (gT [x, y]) := by
  refine ⟨_, _, rfl, by omega, fun j hj => ⟨g, 0, rfl, ?_⟩⟩
  have h2 : j = 0 ∨ j = 1 := by omega
  rcases h2 with rfl | rfl
  · exact ⟨has_cell h 0, has_cell h 1, has_cell h 2⟩
  · exact ⟨has_cell h 3, has_cell h 4, has_cell h 5⟩
theorem wk_p1 : pE 2 (gT [⟨1, 2, 0⟩, ⟨1, 3, 0⟩]) 6 = 0 := by decide
theorem wk_p2 : pN 2 (gT [⟨1, 2, 0⟩, ⟨1, 3, 0⟩]) 6 = 6 := by decide
theorem wk_p3 : ∀ j, j < 6 → plz (itI 2 (gT [⟨1, 2, 0⟩, ⟨1, 3, 0⟩])) 2 j = gI [0, 1, 0, 1, 0, -1] j := by decide +kernel
theorem wk_m1 : mE 2 (gT [⟨2, 2, 0⟩, ⟨1, 2, 0⟩]) 4 (gI [0, 0, 1, 0]) = 0 := by decide
theorem wk_m2 : mN 2 (gT [⟨2, 2, 0⟩, ⟨1, 2, 0⟩]) 4 (gI [0, 0, 1, 0]) = 2 := by decide
theorem wk_m3 : ∀ j, j < 2 → mG 2 (gT [⟨2, 2, 0⟩, ⟨1, 2, 0⟩]) 4 (gI [0, 0, 1, 0]) j = gI [1, 1] j := by decide +kernel
theorem wk_d1 : dE 2 (gT [⟨1, 2, 0⟩, ⟨1, 3, 1⟩]) 0 6 = 0 := by decide
theorem wk_d2 : dV 2 (gT [⟨1, 2, 0⟩, ⟨1, 3, 1⟩]) 0 6 = 4 := by decide +kernel
theorem wk_k : placeZ (pick (gT [⟨1, 1, 3⟩, ⟨0, 1, 3⟩]) 2) = 1 := by decide
theorem wk_v : vE 1 (gT [⟨0, 0, 0⟩]) = 2 := by decide
set_option maxHeartbeats 4000000 in
set_option maxRecDepth 100000 in
theorem works_any (w : World) : Calls Try.prog 17 #[] w fun e w' => e = .returned (.bool true) ∧ Below w.heap.size w w' := by
  have HP := Lib.hid (fun W v h => plan_any W v 2 (gT [⟨1, 2, 0⟩, ⟨1, 3, 0⟩]) h 6)
  rw [wk_p1, wk_p2] at HP
  have HM := Lib.hid (fun W v p0 cap0 h hp hc => missed_any W v 2 (gT [⟨2, 2, 0⟩, ⟨1, 2, 0⟩]) h p0 4 cap0 (gI [0, 0, 1, 0]) hp hc)
  rw [wk_m1, wk_m2] at HM
  have HD := Lib.hid (fun W v h => Demand_any W v 2 (gT [⟨1, 2, 0⟩, ⟨1, 3, 1⟩]) h 0 6)
  rw [wk_d1, wk_d2] at HD
  have HK := Lib.hid (fun W v h => pick_any W v 2 (gT [⟨1, 1, 3⟩, ⟨0, 1, 3⟩]) h)
  rw [wk_k] at HK
  have HV := Lib.hid (fun W v h => valid_any W v 1 (gT [⟨0, 0, 0⟩]) h)
  rw [wk_v] at HV
  go_enter Try.func17, Try.ntmps17
  go_wp2_with fail
  refine (HP.out _ _ (lit_tris2 ⟨1, 2, 0⟩ ⟨1, 3, 0⟩ (has_new _ _ _ rfl))).mono ?_
  intro e w1 hpost
  obtain ⟨p1, c1, rfl, ho1, hn1, hb1⟩ := hpost.one (by omega)
  rw [errV_0]
  have HN1 := Lib.hid (hn1.congr wk_p3)
  have HB1 := Lib.hid (bnext ((Below.refl _ _).alloc (Nat.le_refl _) _) hb1)
  clear hpost ho1 hn1 hb1
  go_wp2_with fail
  refine (HM.out _ _ _ 4 (lit_tris2 ⟨2, 2, 0⟩ ⟨1, 2, 0⟩ (has_old (has_new _ _ _ rfl) _)) (lit_nums [0, 0, 1, 0] (has_new _ _ _ (by simp)) rfl (by decide)) (by omega)).mono ?_
  intro e w2 hpost
  obtain ⟨p2, c2, rfl, ho2, hn2, hb2⟩ := hpost.one (by omega)
  rw [errV_0]
  have HN2 := Lib.hid (hn2.congr wk_m3)
  have hbx := bnext (below_alloc ((Below.refl w1.heap.size w1).alloc (Nat.le_refl _) _) _) hb2
  have HN1 := Lib.hid (HN1.out.below hbx)
  have HB2 := Lib.hid (bnext HB1.out hbx)
  clear hpost ho2 hn2 hb2 hbx
  go_wp2_with fail
  refine (HD.out _ _ (lit_tris2 ⟨1, 2, 0⟩ ⟨1, 3, 1⟩ (has_new _ _ _ rfl))).mono ?_
  rintro e w3 ⟨rfl, hb3⟩
  rw [errV_0]
  have hbx := bnext ((Below.refl w2.heap.size w2).alloc (Nat.le_refl _) _) hb3
  have HN1 := Lib.hid (HN1.out.below hbx)
  have HN2 := Lib.hid (HN2.out.below hbx)
  have HB3 := Lib.hid (bnext HB2.out hbx)
  clear hb3 hbx
  go_wp2_with fail
  refine (same_yes _ _ _ 6 _ (HN1.out.below ((Below.refl _ _).alloc (Nat.le_refl _) _)) (lit_nums [0, 1, 0, 1, 0, -1] (has_new _ _ _ rfl) rfl (by decide))).mono ?_
  rintro e w4 ⟨rfl, hb4⟩
  have hbx := bnext ((Below.refl w3.heap.size w3).alloc (Nat.le_refl _) _) hb4
  have HN2 := Lib.hid (HN2.out.below hbx)
  have HB4 := Lib.hid (bnext HB3.out hbx)
  clear hb4 hbx HN1
  go_wp2_with fail
  refine (same_yes _ _ _ 2 _ (HN2.out.below ((Below.refl _ _).alloc (Nat.le_refl _) _)) (lit_nums [1, 1] (has_new _ _ _ rfl) rfl (by decide))).mono ?_
  rintro e w5 ⟨rfl, hb5⟩
  have HB5 := Lib.hid (bnext HB4.out (bnext ((Below.refl w4.heap.size w4).alloc (Nat.le_refl _) _) hb5))
  clear hb5 HN2
  go_wp2_with fail
  refine (HK.out _ _ (lit_tris2 ⟨1, 1, 3⟩ ⟨0, 1, 3⟩ (has_new _ _ _ rfl))).mono ?_
  rintro e w6 ⟨rfl, hb6⟩
  have HB6 := Lib.hid (bnext HB5.out (bnext ((Below.refl w5.heap.size w5).alloc (Nat.le_refl _) _) hb6))
  clear hb6
  go_wp2_with fail
  refine (HV.out _ _ (lit_tris1 ⟨0, 0, 0⟩ (has_new _ _ _ rfl))).mono ?_
  rintro e w7 ⟨rfl, hb7⟩
  have HB7 := Lib.hid (bnext HB6.out (bnext ((Below.refl w6.heap.size w6).alloc (Nat.le_refl _) _) hb7))
  clear hb7
  go_wp2_with fail
  refine (num_any 2 _).mono ?_
  rintro e w8 ⟨rfl, rfl⟩
  go_wp2_with fail
  go_ret
  exact ⟨rfl, HB7.out⟩
end Go.Proofs.Ytfahpjilgdlhiaa
