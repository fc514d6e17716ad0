/- The program's handleAt, find, Get, Len of a table; no condition but those that each row names. -/
import Derived.Test.YtlcdbblbepndoaaDoorVPT
namespace Go.Proofs.YtlcdbblbepndoaaDoor
open Go.RowKit

set_option maxHeartbeats 1000000 in
set_option maxRecDepth 100000 in
theorem phandle (B : Nat) (A : Tab) (hA : A.Good) (w : World) (b g1 c1 g2 c2 g3 c3 : Nat) (h : PT B w A b g1 c1 g2 c2 g3 c3) (i : Nat) (hi : i < A.gens.length) (hi2 : A.g i ≤ 1023) :
    Calls Tryd.prog 67 #[.pointer (some ⟨b, 0, none⟩), .int .i64 i] w fun e w' => e = .returned (.int .i64 (A.hd i)) ∧ ∃ n, w' = w.drewN n := by
  have n4 := hA.n4
  have hp : okP A.kind i (A.g i) := ⟨hA.k1, hA.k3, by omega, by omega, (hA.g1 i hi).1, hi2⟩
  have HM := Lib.hid (fun w => make_ok A.kind i (A.g i) w hp)
  have q := h.own.g.cellAt i (by omega)
  rw [ints_at hi] at q
  have f0 := h.f0
  have f1 := h.f1
  have hh : A.hd i = mkH A.kind i (A.g i) := rfl
  rw [hh]
  have hg : A.gens.getD i 0 = A.g i := rfl
  rw [hg] at q
  generalize mkH A.kind i (A.g i) = y at *
  generalize A.g i = gv at *
  have z0 : (0 : Int) ≤ (i : Int) := by omega
  have z1 : (i : Int) < (A.gens.length : Int) := by omega
  clear hp hh hg h hA hi2
  go_enter Tryd.func67, Tryd.ntmps67
  go_wp2_with fail
  go_quiet ((go_at_call 41; exact Calls.quiet_of_same ((HM.out _).mono fun _ _ h => ⟨h.1, h.2.symm⟩)))
  go_wp2_with fail
  go_ret
  exact ⟨rfl, _, rfl⟩

/-- What find answers. -/
def findV (A : Tab) (x : Int) : Value := match A.find x with
  | none => .tuple #[.int .i64 0, .iface 68 (.int .i64 20)]
  | some i => .tuple #[.int .i64 i, .nilIface]

set_option maxHeartbeats 1000000 in
set_option maxRecDepth 100000 in
theorem pfind (B : Nat) (A : Tab) (hA : A.Good) (w : World) (b g1 c1 g2 c2 g3 c3 : Nat) (h : PT B w A b g1 c1 g2 c2 g3 c3) (x : Int) :
    Calls Tryd.prog 54 #[.pointer (some ⟨b, 0, none⟩), .int .i64 x] w fun e w' => e = .returned (findV A x) ∧ Below w.heap.size w w' := by
  have n4 := hA.n4
  have hlt := hA.lt
  by_cases hok : okH x
  · have HS := Lib.hid (fun w => slot_ok x w hok)
    have s0 := (sOf_nonneg x).1
    by_cases hs : sOf x < A.gens.length
    · obtain ⟨i, hi⟩ := Int.eq_ofNat_of_zero_le s0
      have hil : i < A.gens.length := by omega
      have f2 := h.f2
      have q := h.own.t.cellAt i (by omega)
      rw [bools_at (by omega)] at q
      rw [hi] at HS
      rw [hlt] at f2
      have z0 : (0 : Int) ≤ (i : Int) := by omega
      have z1 : (i : Int) < (A.gens.length : Int) := by omega
      by_cases ht : A.taken.getD i false = true
      · have HH := Lib.hid (phandle B A hA w b g1 c1 g2 c2 g3 c3 h i hil (hA.gt i hil ht))
        rw [ht] at q
        by_cases hx : A.hd i = x
        · have hv : findV A x = .tuple #[.int .i64 i, .nilIface] := by
            have : A.find x = some i := find_some hA hil ht hok (by rw [← hx]; exact (hd_parts hA hil ht).2.1) hi (by rw [← hx]; exact (hd_parts hA hil ht).2.2.2)
            unfold findV; rw [this]
          rw [hv]
          have hq : (A.hd i != x) = false := by simp [hx]
          generalize A.hd i = y at *
          clear hv hx h ht hi hA hs
          go_enter Tryd.func54, Tryd.ntmps54
          go_wp2_with fail
          refine (HS.out _).mono ?_
          rintro e w1 ⟨rfl, rfl⟩
          go_wp2_with fail
          refine HH.out.mono ?_
          rintro e w1 ⟨rfl, n, rfl⟩
          go_wp2_with fail
          go_ret2
          exact ⟨rfl, below_drewN (Below.refl _ _) n⟩
        · have hv : findV A x = .tuple #[.int .i64 0, .iface 68 (.int .i64 20)] := by
            have : A.find x = none := firstIn_none fun j hj => by
              rw [Bool.eq_false_iff]
              intro k
              obtain ⟨_, _, _, k3, k4⟩ := (is_iff hA x hj).1 k
              have : j = i := by omega
              subst this
              unfold Tab.is at k
              simp at k
              exact hx k.2
            unfold findV; rw [this]
          rw [hv]
          have hq : (A.hd i != x) = true := by simp [hx]
          generalize A.hd i = y at *
          clear hv hx h ht hi hA hs
          go_enter Tryd.func54, Tryd.ntmps54
          go_wp2_with fail
          refine (HS.out _).mono ?_
          rintro e w1 ⟨rfl, rfl⟩
          go_wp2_with fail
          refine HH.out.mono ?_
          rintro e w1 ⟨rfl, n, rfl⟩
          go_wp2_with fail
          go_ret2
          exact ⟨rfl, below_drewN (Below.refl _ _) n⟩
      · have hf : A.taken.getD i false = false := by simpa using ht
        have hv : findV A x = .tuple #[.int .i64 0, .iface 68 (.int .i64 20)] := by
          have : A.find x = none := find_none hA fun j hj htj _ _ hsj _ => by
            have : j = i := by omega
            subst this
            exact ht htj
          unfold findV; rw [this]
        rw [hv]
        rw [hf] at q
        clear hv h ht hi hA hs hf
        go_enter Tryd.func54, Tryd.ntmps54
        go_wp2_with fail
        refine (HS.out _).mono ?_
        rintro e w1 ⟨rfl, rfl⟩
        go_wp2_with fail
        go_ret2
        exact ⟨rfl, Below.refl _ _⟩
    · have hv : findV A x = .tuple #[.int .i64 0, .iface 68 (.int .i64 20)] := by
        have : A.find x = none := find_none hA fun j hj _ _ _ hsj _ => by omega
        unfold findV; rw [this]
      rw [hv]
      have f2 := h.f2
      rw [hlt] at f2
      generalize sOf x = s at *
      have hs2 : (A.gens.length : Int) ≤ s := by omega
      clear hv h hs hA
      go_enter Tryd.func54, Tryd.ntmps54
      go_wp2_with fail
      refine (HS.out _).mono ?_
      rintro e w1 ⟨rfl, rfl⟩
      go_wp2_with fail
      go_ret2
      exact ⟨rfl, Below.refl _ _⟩
  · have HS := Lib.hid (fun w => slot_no x w hok)
    have hv : findV A x = .tuple #[.int .i64 0, .iface 68 (.int .i64 20)] := by
      have : A.find x = none := find_none hA fun j hj _ h2 _ _ _ => hok h2
      unfold findV; rw [this]
    rw [hv]
    clear hv h hok hA
    go_enter Tryd.func54, Tryd.ntmps54
    go_wp2_with fail
    refine (HS.out _).mono ?_
    rintro e w1 ⟨rfl, rfl⟩
    go_wp2_with fail
    go_ret2
    exact ⟨rfl, Below.refl _ _⟩
end Go.Proofs.YtlcdbblbepndoaaDoor
