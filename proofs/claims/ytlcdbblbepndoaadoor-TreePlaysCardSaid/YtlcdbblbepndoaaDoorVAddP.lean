/- The program's Add of a table; no condition but those that each row names. -/
import Derived.Test.YtlcdbblbepndoaaDoorVDropP
import Derived.Deep.LoopGhost
namespace Go.Proofs.YtlcdbblbepndoaaDoor
open Go.RowKit

set_option maxHeartbeats 1000000 in
set_option maxRecDepth 100000 in
theorem padd_none (S : Nat → Prop) (B : Nat) (A : Tab) (hA : A.Good) (w : World) (v : Value) (h : PTab S B w A v) (y : Int) (hf : A.free = none) :
    Calls Tryd.prog 18 #[v, .int .i64 y] w (ActPost S B w A v (.tuple #[.int .i64 0, errV 30])) := by
  have HP := Lib.hid h
  obtain ⟨b, g1, c1, g2, c2, g3, c3, rfl, h, hSx⟩ := h
  clear hSx
  have HF := Lib.hid (firstIn_inv_none hf)
  have hlt := hA.lt
  have n4 := hA.n4
  have f1 := h.f1
  have f2 := h.f2
  rw [hlt] at f2
  have HQ := Lib.hid h.own
  have HLT := Lib.hid hlt
  clear hf h hA hlt
  go_enter Tryd.func18, Tryd.ntmps18
  go_wp2_with fail
  go_loop [6, 7, 13] (fun _ _ i => ∃ k : Nat, k ≤ A.gens.length ∧ i = .int .i64 k) (fun _ _ i => A.gens.length - (intOf i).toNat)
  case atStart => exact ⟨0, Nat.zero_le _, rfl⟩
  case round =>
    obtain ⟨k, hk, rfl⟩ := hrel
    by_cases hlt : k < A.gens.length
    · have q := HQ.out.g.cellAt k (by omega)
      rw [ints_at hlt] at q
      have q3 := HQ.out.t.cellAt k (by have := HLT.out; omega)
      rw [bools_at (by have := HLT.out; omega)] at q3
      have hf := HF.out k hlt
      unfold Tab.fr Tab.t Tab.g at hf
      have z0 : (0 : Int) ≤ (k : Int) := by omega
      have z1 : (k : Int) < (A.gens.length : Int) := by omega
      generalize A.gens.getD k 0 = g at *
      generalize A.taken.getD k false = t at *
      cases t with
      | true =>
        clear hf
        go_wp2_with fail
        go_round
        case rel => exact ⟨k + 1, by omega, by go_num⟩
        case measure => simp [intOf]; omega
      | false =>
        have h2 : 1023 < g := by simp at hf; omega
        clear hf
        go_wp2_with fail
        go_round
        case rel => exact ⟨k + 1, by omega, by go_num⟩
        case measure => simp [intOf]; omega
    · go_wp2_with fail
      go_ret2
      exact ⟨rfl, HP.out, Keeps.refl _ _⟩

set_option maxHeartbeats 2000000 in
set_option maxRecDepth 100000 in
theorem padd_some (S : Nat → Prop) (B : Nat) (A : Tab) (hA : A.Good) (w : World) (v : Value) (h : PTab S B w A v) (y : Int) (i : Nat) (hf : A.free = some i) :
    Calls Tryd.prog 18 #[v, .int .i64 y] w (ActPost S B w (A.addAt i y) v (.tuple #[.int .i64 (A.hd i), .nilIface])) := by
  obtain ⟨b, g1, c1, g2, c2, g3, c3, rfl, h, HS⟩ := h
  have HP := Lib.hid h
  have HS2 := Lib.hid HS
  clear HS
  obtain ⟨hi, hti, hgi⟩ := fr_iff hf
  have HFR := Lib.hid (show ∀ j, j < i → A.fr j = false from fun j hj => by
    have hf' := hf
    unfold Tab.free firstIn at hf'
    rw [List.find?_eq_some_iff_getElem] at hf'
    obtain ⟨_, n, hn, e, hall⟩ := hf'
    simp at e
    subst e
    have := hall j hj
    simpa using this)
  have hlt := hA.lt
  have hll := hA.ll
  have n4 := hA.n4
  have hp : okP A.kind i (A.g i) := ⟨hA.k1, hA.k3, by omega, by omega, (hA.g1 i hi).1, hgi⟩
  have HM := Lib.hid (fun w => make_ok A.kind i (A.g i) w hp)
  have hh : A.hd i = mkH A.kind i (A.g i) := rfl
  rw [hh]
  have HTI := Lib.hid hti
  have HGI := Lib.hid hgi
  have f1 := h.f1
  have f2 := h.f2
  have f3 := h.f3
  rw [hlt] at f2
  rw [hll] at f3
  have HQ := Lib.hid h.own
  have HLT := Lib.hid hlt
  have HLL := Lib.hid hll
  have f0 := h.f0
  have n23 := h.own.n23
  have n32 : ¬ g3 = g2 := fun e => n23 e.symm
  have m2 := h.n2
  have m3 := h.n3
  clear hf h hA hlt hll hp hh hti hgi
  go_enter Tryd.func18, Tryd.ntmps18
  go_wp2_with fail
  go_loop [6, 7, 13] (fun _ _ i' => ∃ k : Nat, k ≤ i ∧ i' = .int .i64 k) (fun _ _ i => A.gens.length - (intOf i).toNat)
  case atStart => exact ⟨0, Nat.zero_le _, rfl⟩
  case round =>
    obtain ⟨k, hk, rfl⟩ := hrel
    have hlt : k < A.gens.length := by omega
    have q := HQ.out.g.cellAt k (by omega)
    rw [ints_at hlt] at q
    have q3 := HQ.out.t.cellAt k (by have := HLT.out; omega)
    rw [bools_at (by have := HLT.out; omega)] at q3
    have z0 : (0 : Int) ≤ (k : Int) := by omega
    have z1 : (k : Int) < (A.gens.length : Int) := by omega
    by_cases hki : k = i
    · subst hki
      rw [show A.taken.getD k false = false from HTI.out, show A.gens.getD k 0 = A.g k from rfl] at *
      have hg := HGI.out
      have q2 := HQ.out.l.cellAt k (by have := HLL.out; omega)
      rw [ints_at (by have := HLL.out; omega)] at q2
      have q4 := HQ.out.t.frozenAt k
      have q5 := HQ.out.l.frozenAt k
      go_upto_region 5 with fail
      go_cut [] (fun wx => Hid (PT B wx (A.addAt k y) b g1 c1 g2 c2 g3 c3) ∧ Hid (Keeps S w wx))
      case first =>
        go_region
        go_wp2_with fail
        go_meet
        exact ⟨Lib.hid ((HP.out.taken k true).list k y).drew, Lib.hid (((Keeps.refl S w).setCell _ _ (by rw [HS2.out]; simp)).setCell _ _ (by rw [HS2.out]; simp)).drew⟩
      case rest =>
        obtain ⟨K1, K2⟩ := hcut
        have f0' := K1.out.f0
        have ek : (A.addAt k y).kind = A.kind := rfl
        rw [ek] at f0'
        clear q q2 q3 q4 q5 f0 f1 f2 f3
        go_wp2_with fail
        refine (HM.out _).mono ?_
        rintro e w1 ⟨rfl, rfl⟩
        go_wp2_with fail
        go_ret2
        exact ⟨rfl, ⟨b, g1, c1, g2, c2, g3, c3, rfl, K1.out, HS2.out⟩, K2.out⟩
    · have hf := HFR.out k (by omega)
      unfold Tab.fr Tab.t Tab.g at hf
      generalize A.gens.getD k 0 = g at *
      generalize A.taken.getD k false = t at *
      cases t with
      | true =>
        clear hf
        go_wp2_with fail
        go_round
        case rel => exact ⟨k + 1, by omega, by go_num⟩
        case measure => simp [intOf]; omega
      | false =>
        have h2 : 1023 < g := by simp at hf; omega
        clear hf
        go_wp2_with fail
        go_round
        case rel => exact ⟨k + 1, by omega, by go_num⟩
        case measure => simp [intOf]; omega
end Go.Proofs.YtlcdbblbepndoaaDoor
