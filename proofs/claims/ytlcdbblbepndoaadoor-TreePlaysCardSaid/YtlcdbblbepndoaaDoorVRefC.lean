/- The document's own tree: Within, All, Kids; no condition but those that each row names. -/
import Derived.Test.YtlcdbblbepndoaaDoorVRefB
namespace Go.Proofs.YtlcdbblbepndoaaDoor
open Go.RowKit Tr

/-- What Place answers. -/
theorem rplace_ex {A : Tab} {X : Sh} (hR : Rel A X) : ∃ pf : Int → Int, (∀ x, (∀ (S : Nat → Prop) (k0 : Int) (s : TS) (g cap : Nat) (w : World), RD S w g cap (nl A X) → Calls Tryd.prog 22 #[rtv k0 s g cap (nl A X).length, .int .i64 x] w fun e w' => e = .returned (.int .i64 (pf x)) ∧ Below w.heap.size w w') ∧
    ((A.find x = none ∧ pf x = -1) ∨ ∃ i j : Nat, A.find x = some i ∧ pf x = (j : Int) ∧ (X.pt 0)[j]? = some i)) := by
  refine Classical.axiomOfChoice (r := fun (x P : Int) => (∀ (S : Nat → Prop) (k0 : Int) (s : TS) (g cap : Nat) (w : World), RD S w g cap (nl A X) → Calls Tryd.prog 22 #[rtv k0 s g cap (nl A X).length, .int .i64 x] w fun e w' => e = .returned (.int .i64 P) ∧ Below w.heap.size w w') ∧
    ((A.find x = none ∧ P = -1) ∨ ∃ i j : Nat, A.find x = some i ∧ P = (j : Int) ∧ (X.pt 0)[j]? = some i)) fun x => ?_
  cases hf : A.find x with
  | none => exact ⟨-1, fun S k0 s g cap w h => rplace_no S k0 s g cap _ w h x (nl_none hR hf), .inl ⟨rfl, rfl⟩⟩
  | some i =>
    obtain ⟨hi, rfl⟩ := hR.found hf
    obtain ⟨j, _, hj⟩ := place_of hR.tree hi
    exact ⟨j, fun S k0 s g cap w h => rplace_yes S k0 s g cap _ w h _ j (nl_first hR hj), .inr ⟨i, j, rfl, rfl, hj⟩⟩

section
variable {S : Nat → Prop} {A : Tab} {X : Sh} {k0 : Int} {s : TS} {g cap : Nat}

-- Within
set_option maxHeartbeats 2000000 in
theorem rwithin_no (hR : Rel A X) (w : World) (h : RD S w g cap (nl A X)) (x y : Int) (hf : A.find x = none ∨ A.find y = none) :
    Calls Tryd.prog 38 #[rtv k0 s g cap (nl A X).length, .int .i64 x, .int .i64 y] w fun e w' => e = .returned (.tuple #[.bool false, .int .i64 20]) ∧ Below w.heap.size w w' := by
  obtain ⟨pf, hpf⟩ := rplace_ex hR
  have HP := Lib.hid (fun x w1 (hb : Below w.heap.size w w1) => (hpf x).1 S k0 s g cap w1 (h.below hb))
  have hxy : pf x < 0 ∨ pf y < 0 := by
    rcases hf with hf | hf
    · rcases (hpf x).2 with ⟨_, e⟩ | ⟨i, j, e, _⟩
      · omega
      · rw [hf] at e; cases e
    · rcases (hpf y).2 with ⟨_, e⟩ | ⟨i, j, e, _⟩
      · omega
      · rw [hf] at e; cases e
  have hb0 : ∀ o, Below w.heap.size w (w.alloc o) := fun o => (Below.refl _ _).alloc (Nat.le_refl _) o
  generalize nl A X = L at *
  clear h hR hf hpf
  go_enter Tryd.func38, Tryd.ntmps38
  go_wp2_with fail
  have HK5 := Lib.hid (five_keep (w := w) (k0 := k0) (s := s) (g := g) (cap := cap) (n := L.length) (t := 31) (Below.refl _ _))
  have HB0 := Lib.hid (hb0 (.cells #[.int .i64 k0, .slice s.p s.n s.c, .slice s.q s.m s.d, .slice s.r s.l s.e, .slice (some ⟨g, 0, none⟩) L.length cap] 31))
  generalize w.alloc (.cells #[.int .i64 k0, .slice s.p s.n s.c, .slice s.q s.m s.d, .slice s.r s.l s.e, .slice (some ⟨g, 0, none⟩) L.length cap] 31) = W0 at *
  have HKEEP := Lib.hid (show ∀ W, Below W0.heap.size W0 W → (W.cell? ⟨w.heap.size, 0, none⟩ = some (.int .i64 k0) ∧ W.cell? ⟨w.heap.size, 1, none⟩ = some (.slice s.p s.n s.c) ∧ W.cell? ⟨w.heap.size, 2, none⟩ = some (.slice s.q s.m s.d) ∧ W.cell? ⟨w.heap.size, 3, none⟩ = some (.slice s.r s.l s.e) ∧ W.cell? ⟨w.heap.size, 4, none⟩ = some (.slice (some ⟨g, 0, none⟩) L.length cap) ∧ Below W0.heap.size W0 W) from fun W h =>
    ⟨(HK5.out W h).1, (HK5.out W h).2.1, (HK5.out W h).2.2.1, (HK5.out W h).2.2.2.1, (HK5.out W h).2.2.2.2, h⟩)
  obtain ⟨d0, d1, d2, d3, d4⟩ := HK5.out W0 (Below.refl _ _)
  have HPW := Lib.hid (fun x W (h : Below W0.heap.size W0 W) => HP.out x W (bnext HB0.out h))
  clear hb0
  go_cut [8, 9] (fun s8 s9 wx => s8 = .int .i64 (pf x) ∧ s9 = .int .i64 (pf y) ∧ Hid (Below W0.heap.size W0 wx))
  case first =>
    go_region_held3 (fun w' => w'.cell? ⟨w.heap.size, 0, none⟩ = some (.int .i64 k0) ∧ w'.cell? ⟨w.heap.size, 1, none⟩ = some (.slice s.p s.n s.c) ∧ w'.cell? ⟨w.heap.size, 2, none⟩ = some (.slice s.q s.m s.d) ∧ w'.cell? ⟨w.heap.size, 3, none⟩ = some (.slice s.r s.l s.e) ∧ w'.cell? ⟨w.heap.size, 4, none⟩ = some (.slice (some ⟨g, 0, none⟩) L.length cap) ∧ Below W0.heap.size W0 w')
      (first | exact HKEEP.out _ below_drewOne | exact HKEEP.out _ (Below.refl _ _) | (go_split_ands; refine HKEEP.out _ (bnext ?_ hb); first | assumption | exact below_drewOne))
      (first
        | (go_at_call 22; refine (HPW.out _ _ ?_).mono ?_; (go_split_ands; assumption); rintro e w3 ⟨rfl, hb⟩))
    all_goals
      go_wp2_with fail
      go_meet
      go_split_ands
      exact ⟨rfl, rfl, Lib.hid (by assumption)⟩
  case rest =>
    obtain ⟨rfl, rfl, HB1⟩ := hcut
    generalize pf x = a at *
    generalize pf y = b at *
    by_cases ha : a < 0
    · have hq : decide (a < 0) = true := decide_eq_true ha
      clear hxy
      go_wp2_with fail
      go_ret2
      exact ⟨rfl, bnext HB0.out HB1.out⟩
    · have hbb : b < 0 := by omega
      have hq : decide (a < 0) = false := decide_eq_false ha
      have hq2 : decide (b < 0) = true := decide_eq_true hbb
      clear hxy
      go_wp2_with fail
      go_ret2
      exact ⟨rfl, bnext HB0.out HB1.out⟩

set_option maxHeartbeats 2000000 in
theorem rwithin_yes (hR : Rel A X) (w : World) (h : RD S w g cap (nl A X)) (i j : Nat) (hi : X.t i = true) (hj : X.t j = true) :
    Calls Tryd.prog 38 #[rtv k0 s g cap (nl A X).length, .int .i64 (A.hd i), .int .i64 (A.hd j)] w fun e w' => e = .returned (.tuple #[.bool (decide (i ∈ X.pt j)), .int .i64 0]) ∧ Below w.heap.size w w' := by
  obtain ⟨pf, hpf⟩ := rplace_ex hR
  have HP := Lib.hid (fun x w1 (hb : Below w.heap.size w w1) => (hpf x).1 S k0 s g cap w1 (h.below hb))
  obtain ⟨ja, hpa, hja⟩ : ∃ ja : Nat, pf (A.hd i) = (ja : Int) ∧ (X.pt 0)[ja]? = some i := by
    rcases (hpf (A.hd i)).2 with ⟨e, _⟩ | ⟨i', j', e, e2, e3⟩
    · rw [hR.find hi] at e; cases e
    · rw [hR.find hi] at e; injection e with e; subst e; exact ⟨j', e2, e3⟩
  obtain ⟨jb, hpb, hjb⟩ : ∃ jb : Nat, pf (A.hd j) = (jb : Int) ∧ (X.pt 0)[jb]? = some j := by
    rcases (hpf (A.hd j)).2 with ⟨e, _⟩ | ⟨i', j', e, e2, e3⟩
    · rw [hR.find hj] at e; cases e
    · rw [hR.find hj] at e; injection e with e; subst e; exact ⟨j', e2, e3⟩
  obtain ⟨⟨he1, he2, he3⟩, he4, he5⟩ := nl_end hR hjb
  have HE := Lib.hid (fun w1 (hb : Below w.heap.size w w1) => rend_ok S k0 s g cap _ w1 (h.below hb) jb _ he1 he4 he5 he2 he3)
  have hin := place_in hR.tree hj hjb hja
  obtain ⟨E, hE⟩ : ∃ E, E = jb + (X.pt j).length := ⟨_, rfl⟩
  rw [← hE] at HE hin
  have HA := Lib.hid hpa
  have HBB := Lib.hid hpb
  have HIN := Lib.hid hin
  obtain ⟨r, hr⟩ : ∃ r, r = decide (i ∈ X.pt j) := ⟨_, rfl⟩
  rw [← hr]
  have HRR := Lib.hid hr
  generalize A.hd i = x at *
  generalize A.hd j = y at *
  have hb0 : ∀ o, Below w.heap.size w (w.alloc o) := fun o => (Below.refl _ _).alloc (Nat.le_refl _) o
  generalize nl A X = L at *
  clear h hR hi hj hpf hpa hpb hja hjb he1 he2 he3 he4 he5 hin hE hr
  go_enter Tryd.func38, Tryd.ntmps38
  go_wp2_with fail
  have HK5 := Lib.hid (five_keep (w := w) (k0 := k0) (s := s) (g := g) (cap := cap) (n := L.length) (t := 31) (Below.refl _ _))
  have HB0 := Lib.hid (hb0 (.cells #[.int .i64 k0, .slice s.p s.n s.c, .slice s.q s.m s.d, .slice s.r s.l s.e, .slice (some ⟨g, 0, none⟩) L.length cap] 31))
  generalize w.alloc (.cells #[.int .i64 k0, .slice s.p s.n s.c, .slice s.q s.m s.d, .slice s.r s.l s.e, .slice (some ⟨g, 0, none⟩) L.length cap] 31) = W0 at *
  have HKEEP := Lib.hid (show ∀ W, Below W0.heap.size W0 W → (W.cell? ⟨w.heap.size, 0, none⟩ = some (.int .i64 k0) ∧ W.cell? ⟨w.heap.size, 1, none⟩ = some (.slice s.p s.n s.c) ∧ W.cell? ⟨w.heap.size, 2, none⟩ = some (.slice s.q s.m s.d) ∧ W.cell? ⟨w.heap.size, 3, none⟩ = some (.slice s.r s.l s.e) ∧ W.cell? ⟨w.heap.size, 4, none⟩ = some (.slice (some ⟨g, 0, none⟩) L.length cap) ∧ Below W0.heap.size W0 W) from fun W h =>
    ⟨(HK5.out W h).1, (HK5.out W h).2.1, (HK5.out W h).2.2.1, (HK5.out W h).2.2.2.1, (HK5.out W h).2.2.2.2, h⟩)
  obtain ⟨d0, d1, d2, d3, d4⟩ := HK5.out W0 (Below.refl _ _)
  have HPW := Lib.hid (fun x W (h : Below W0.heap.size W0 W) => HP.out x W (bnext HB0.out h))
  clear hb0
  go_cut [8, 9] (fun s8 s9 wx => s8 = .int .i64 (pf x) ∧ s9 = .int .i64 (pf y) ∧ Hid (Below W0.heap.size W0 wx))
  case first =>
    go_region_held3 (fun w' => w'.cell? ⟨w.heap.size, 0, none⟩ = some (.int .i64 k0) ∧ w'.cell? ⟨w.heap.size, 1, none⟩ = some (.slice s.p s.n s.c) ∧ w'.cell? ⟨w.heap.size, 2, none⟩ = some (.slice s.q s.m s.d) ∧ w'.cell? ⟨w.heap.size, 3, none⟩ = some (.slice s.r s.l s.e) ∧ w'.cell? ⟨w.heap.size, 4, none⟩ = some (.slice (some ⟨g, 0, none⟩) L.length cap) ∧ Below W0.heap.size W0 w')
      (first | exact HKEEP.out _ below_drewOne | exact HKEEP.out _ (Below.refl _ _) | (go_split_ands; refine HKEEP.out _ (bnext ?_ hb); first | assumption | exact below_drewOne))
      (first
        | (go_at_call 22; refine (HPW.out _ _ ?_).mono ?_; (go_split_ands; assumption); rintro e w3 ⟨rfl, hb⟩))
    all_goals
      go_wp2_with fail
      go_meet
      go_split_ands
      exact ⟨rfl, rfl, Lib.hid (by assumption)⟩
  case rest =>
    obtain ⟨rfl, rfl, HB1⟩ := hcut
    rw [HA.out, HBB.out]
    have HEW := Lib.hid (fun W (h : Below W0.heap.size W0 W) => HE.out W (bnext HB0.out h))
    obtain ⟨d0, d1, d2, d3, d4⟩ := HK5.out wc HB1.out
    have hq1 : decide ((ja : Int) < 0) = false := decide_eq_false (by omega)
    have hq2 : decide ((jb : Int) < 0) = false := decide_eq_false (by omega)
    by_cases hab : jb ≤ ja
    · have hq3 : decide ((jb : Int) ≤ (ja : Int)) = true := decide_eq_true (by omega)
      go_wp2_with fail
      refine (HEW.out _ HB1.out).mono ?_
      rintro e w3 ⟨rfl, hb⟩
      have hb3 := bnext (bnext HB0.out HB1.out) hb
      go_wp2_with fail
      go_ret2
      refine ⟨?_, hb3⟩
      rw [HRR.out]
      have : decide (ja < E) = decide (i ∈ X.pt j) := decide_eq_decide.2 ⟨fun h => HIN.out.1 ⟨hab, h⟩, fun h => (HIN.out.2 h).2⟩
      rw [← this]
      simp
    · have hq3 : decide ((jb : Int) ≤ (ja : Int)) = false := decide_eq_false (by omega)
      go_wp2_with fail
      go_ret2
      refine ⟨?_, bnext HB0.out HB1.out⟩
      rw [HRR.out, decide_eq_false (fun h => hab (HIN.out.2 h).1)]
      rfl
end
end Go.Proofs.YtlcdbblbepndoaaDoor
