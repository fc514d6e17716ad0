/- The program's Common; no condition but those that each row names. -/
import Derived.Test.YtlcdbblbepndoaaDoorVOps
namespace Go.Proofs.YtlcdbblbepndoaaDoor
open Go.RowKit Tr

section
variable {T : Nat → Prop} {B : Nat} {A : Tab} {X : Sh} {bt b : Nat}

-- Common
theorem common_no (hA : A.Good) (w : World) (h : TR T B w A bt b) (x y : Int) (hf : A.find x = none ∨ A.find y = none) :
    Calls Tryd.prog 39 #[.pointer (some ⟨bt, 0, none⟩), .int .i64 x, .int .i64 y] w fun e w' => e = .returned (.tuple #[.int .i64 0, .iface 68 (.int .i64 20)]) ∧ Below w.heap.size w w' := by
  have HL := Lib.hid (look2_no hA w h x y hf)
  clear h hA hf
  go_enter Tryd.func39, Tryd.ntmps39
  go_wp2_with fail
  refine HL.out.mono ?_
  rintro e w1 ⟨rfl, hb⟩
  go_wp2_with fail
  go_ret2
  exact ⟨rfl, hb⟩
/-- On the way up from i, nobody below c is above j. -/
structure ComR (A : Tab) (X : Sh) (i j g : Nat) (y : Int) : Prop where
  ex : ∃ c, X.t c = true ∧ y = A.hd c ∧ X.d c ≤ g ∧ c ∈ X.back i ∧ ∀ z ∈ X.back i, X.d c < X.d z → z ∉ X.back j
theorem ComR.start {i j : Nat} (hR : Rel A X) (hi : X.t i = true) : ComR A X i j (X.d i) (A.hd i) :=
  ⟨i, hi, rfl, Nat.le_refl _, back_self X i, fun z hz hd => by have := (back_mem hR.tree i hi z hz).2; omega⟩
theorem hd_in (hR : Rel A X) {c j : Nat} (hc : X.t c = true) (hj : X.t j = true) : A.hd c ∈ (X.path j).map A.hd ↔ c ∈ X.back j := by
  rw [List.mem_map]
  unfold Sh.path
  constructor
  · rintro ⟨k, hk, e⟩
    have hk := List.mem_reverse.1 hk
    have := hR.inj (back_mem hR.tree j hj k hk).1 hc e
    subst this
    exact hk
  · intro hk
    exact ⟨c, List.mem_reverse.2 hk, rfl⟩
theorem ComR.stop {i j g : Nat} {y : Int} (hR : Rel A X) (hj : X.t j = true) (h : ComR A X i j g y) (hin : y ∈ (X.path j).map A.hd) : ∃ r, y = A.hd r ∧ Low X i j r := by
  obtain ⟨c, hc, rfl, _, h1, h2⟩ := h.ex
  exact ⟨c, rfl, h1, (hd_in hR hc hj).1 hin, h2⟩
theorem ComR.next {i j g : Nat} {y : Int} (hR : Rel A X) (hi : X.t i = true) (hj : X.t j = true) (h : ComR A X i j g y) (hin : y ∉ (X.path j).map A.hd) : ∃ k, g = k + 1 ∧ ComR A X i j k (getV A y) := by
  obtain ⟨c, hc, rfl, hg, h1, h2⟩ := h.ex
  have hcj : c ∉ X.back j := fun k => hin ((hd_in hR hc hj).2 k)
  have hc0 : c ≠ 0 := by rintro rfl; exact hcj (back_root hR.tree j hj)
  obtain ⟨hu, hd⟩ := hR.tree.up c hc hc0
  refine ⟨g - 1, by omega, X.u c, hu, hR.get_up hc hc0, by omega, back_step hR.tree i hi c h1 hc0, fun z hz hz2 => ?_⟩
  by_cases e : X.d z = X.d c
  · have := back_inj hR.tree i hi z hz c h1 e
    subst this
    exact hcj
  · exact h2 z hz (by omega)
set_option maxHeartbeats 1000000 in
set_option maxRecDepth 100000 in
theorem common_yes (hR : Rel A X) (w : World) (h : TR T B w A bt b) (i j : Nat) (hi : X.t i = true) (hj : X.t j = true) :
    Calls Tryd.prog 39 #[.pointer (some ⟨bt, 0, none⟩), .int .i64 (A.hd i), .int .i64 (A.hd j)] w fun e w' => ∃ r, Low X i j r ∧ e = .returned (.tuple #[.int .i64 (A.hd r), .nilIface]) ∧ Below w.heap.size w w' := by
  have HL := Lib.hid (look2_yes hR.good w h _ _ i j (hR.find hi) (hR.find hj))
  have HP := Lib.hid (fun w1 (hb : Below w.heap.size w w1) => tpath T B A X hR w1 bt b (h.below hb) j hj)
  have HU := Lib.hid (fun w1 (hb : Below w.heap.size w w1) y => tparent T B A hR.good w1 bt b (h.below hb) y)
  have hl : ((X.path j).map A.hd).length ≤ 9 := by have := hR.tree.d8 j hj; rw [List.length_map, path_len]; omega
  have HC := Lib.hid (fun v w1 z (hv : Lst (fun _ => False) w1 v (ints ((X.path j).map A.hd))) => contains_any (fun _ => False) ((X.path j).map A.hd) z v w1 hv)
  have HST := Lib.hid (ComR.start (j := j) hR hi)
  have HSTOP := Lib.hid (fun g y => ComR.stop (i := i) (g := g) (y := y) hR hj)
  have HNEXT := Lib.hid (fun g y => ComR.next (i := i) (g := g) (y := y) hR hi hj)
  obtain ⟨n, hn⟩ : ∃ n, n = X.d i := ⟨_, rfl⟩
  rw [← hn] at HST
  clear h hR hi hj hn
  generalize (X.path j).map A.hd = L at *
  generalize A.hd i = y at *
  generalize A.hd j = z at *
  go_enter Tryd.func39, Tryd.ntmps39
  go_wp2_with fail
  refine HL.out.mono ?_
  rintro e w1 ⟨rfl, hb⟩
  go_wp2_with fail
  refine (HP.out w1 hb).mono ?_
  rintro e w2 ⟨v, rfl, ho, hb2⟩
  obtain ⟨p, cp, rfl⟩ := ho.shape
  have HO := Lib.hid (fun w3 (hb3 : Below w2.heap.size w2 w3) => (ho.below hb3).lst (by omega))
  have HB2 := Lib.hid (bnext hb hb2)
  clear ho hb hb2
  go_wp2_with fail
  go_loopg [1] n (fun g yv wr => ∃ y : Int, yv = .int .i64 y ∧ Hid (ComR A X i j g y) ∧ Hid (Below w2.heap.size w2 wr))
  case atStart => exact ⟨y, rfl, HST, Lib.hid (Below.refl _ _)⟩
  case round =>
    clear HST
    obtain ⟨y, rfl, HW, HB⟩ := hrel
    have HCC := Lib.hid (HC.out _ wr y (HO.out wr HB.out))
    by_cases hin : y ∈ L
    · obtain ⟨r, hr1, hr2⟩ := HSTOP.out _ _ HW.out hin
      rw [decide_eq_true hin] at HCC
      have HLOW := Lib.hid hr2
      have HY := Lib.hid hr1
      clear hr1 hr2 hin
      go_wp2_with fail
      refine HCC.out.mono ?_
      rintro e w3 ⟨rfl, rfl⟩
      go_wp2_with fail
      go_ret2
      exact ⟨r, HLOW.out, by rw [← HY.out]; rfl, bnext HB2.out HB.out⟩
    · obtain ⟨k, hk, hw⟩ := HNEXT.out _ _ HW.out hin
      subst hk
      rw [decide_eq_false hin] at HCC
      have HW2 := Lib.hid hw
      have HUU := Lib.hid (HU.out wr (bnext HB2.out HB.out) y)
      clear hw hin
      generalize getV A y = x at *
      go_wp2_with fail
      refine HCC.out.mono ?_
      rintro e w3 ⟨rfl, rfl⟩
      go_wp2_with fail
      refine HUU.out.mono ?_
      rintro e w3 ⟨rfl, hb3⟩
      have HB3 := Lib.hid (bnext HB.out hb3)
      clear hb3
      go_wp2_with fail
      go_roundg k
      case measure => omega
      case rel => exact ⟨x, rfl, HW2, HB3⟩

end
end Go.Proofs.YtlcdbblbepndoaaDoor
