/- The program's path of a node; no condition but those that each row names. -/
import Derived.Test.YtlcdbblbepndoaaDoorVTree
namespace Go.Proofs.YtlcdbblbepndoaaDoor
open Go.RowKit Tr

/-- On the way up: what has been met, and who is next. -/
structure WayR (A : Tab) (X : Sh) (i g : Nat) (y : Int) (Q : List Int) : Prop where
  ex : ∃ P R, X.back i = P ++ R ∧ Q = P.map A.hd ∧ R.length ≤ g ∧ ((R = [] ∧ y = 0) ∨ (∃ c, X.t c = true ∧ R = X.back c ∧ y = A.hd c))
theorem WayR.start {A : Tab} {X : Sh} {i : Nat} (hi : X.t i = true) : WayR A X i (X.back i).length (A.hd i) [] := ⟨[], X.back i, rfl, rfl, Nat.le_refl _, .inr ⟨i, hi, rfl, rfl⟩⟩
theorem WayR.len {A : Tab} {X : Sh} {i g : Nat} {y : Int} {Q : List Int} (h : WayR A X i g y Q) : Q.length ≤ (X.back i).length := by
  obtain ⟨P, R, e, rfl, _⟩ := h.ex
  rw [e]; simp
theorem WayR.stop {A : Tab} {X : Sh} (hR : Rel A X) {i g : Nat} {Q : List Int} (h : WayR A X i g 0 Q) : Q = (X.back i).map A.hd := by
  obtain ⟨P, R, e, rfl, _, ⟨rfl, _⟩ | ⟨c, hc, _, e2⟩⟩ := h.ex
  · rw [e, List.append_nil]
  · exact absurd e2.symm (hR.ne0 hc)
theorem WayR.next {A : Tab} {X : Sh} (hR : Rel A X) {i g : Nat} {y : Int} {Q : List Int} (h : WayR A X i g y Q) (hy : y ≠ 0) : ∃ k, g = k + 1 ∧ WayR A X i k (getV A y) (Q ++ [y]) := by
  obtain ⟨P, R, e, rfl, hg, ⟨_, h0⟩ | ⟨c, hc, rfl, rfl⟩⟩ := h.ex
  · exact absurd h0 hy
  · have hl := back_len X c
    obtain ⟨k, rfl⟩ : ∃ k, g = k + 1 := ⟨g - 1, by omega⟩
    refine ⟨k, rfl, ?_⟩
    by_cases hc0 : c = 0
    · subst hc0
      exact ⟨P ++ [0], [], by rw [e, back_0 hR.tree]; simp, by simp, by simp, .inl ⟨rfl, hR.get_0⟩⟩
    · rw [back_up hR.tree hc hc0] at e hg
      exact ⟨P ++ [c], X.back (X.u c), by rw [e]; simp, by simp, by simpa using hg, .inr ⟨_, (hR.tree.up c hc hc0).1, rfl, hR.get_up hc hc0⟩⟩

set_option maxHeartbeats 1000000 in
set_option maxRecDepth 100000 in
theorem tpath (T : Nat → Prop) (B : Nat) (A : Tab) (X : Sh) (hR : Rel A X) (w : World) (bt b : Nat) (h : TR T B w A bt b) (i : Nat) (hi : X.t i = true) :
    Calls Tryd.prog 47 #[.pointer (some ⟨bt, 0, none⟩), .int .i64 (A.hd i)] w (RowPost w ((X.path i).map A.hd)) := by
  obtain ⟨i0, hinf, hz0, hz1, hz2⟩ := info_parts Tryd.info33
  have HP := Lib.hid (fun w1 (hb : Below w.heap.size w w1) y => tparent T B A hR.good w1 bt b (h.below hb) y)
  have HR := Lib.hid hR
  have HI := Lib.hid hi
  have HRV := Lib.hid (fun v w1 (h1 : OwnH w.heap.size w1 v ((X.back i).map A.hd)) => reverse_own w.heap.size ((X.back i).map A.hd) v w1 h1 (by rw [List.length_map, back_len]; have := hR.tree.d8 i hi; omega))
  have HH := Lib.hid (show A.hd i = A.hd i from rfl)
  have HBL := Lib.hid (show (X.back i).length ≤ 9 by rw [back_len]; have := hR.tree.d8 i hi; omega)
  obtain ⟨y, hy⟩ : ∃ y, y = A.hd i := ⟨_, rfl⟩
  rw [← hy]
  have HY := Lib.hid hy
  clear h hR hi hy
  go_enter Tryd.func47, Tryd.ntmps47
  go_wp2_with fail
  go_loopg [1, 5] (X.back i).length (fun g yv xv wr => ∃ (y : Int) (Q : List Int), yv = .int .i64 y ∧ Hid (WayR A X i g y Q) ∧ Hid (OwnH w.heap.size wr xv Q) ∧ Hid (Below w.heap.size w wr))
  case atStart => exact ⟨y, [], rfl, Lib.hid (by rw [HY.out]; exact WayR.start HI.out), Lib.hid (World.ownsRow_nil _ _ _ _), Lib.hid (Below.refl _ _)⟩
  case round =>
    clear HY
    obtain ⟨y, Q, rfl, HW, HX, HB⟩ := hrel
    obtain ⟨px, cx, rfl⟩ := HX.out.shape
    have hQ := HW.out.len
    have hQ9 := HBL.out
    have hsz := HB.out.size
    by_cases hy : y = 0
    · subst hy
      have hq : ((0 : Int) != 0) = false := rfl
      have HE := Lib.hid (HW.out.stop HR.out)
      have HC := Lib.hid (HRV.out (.slice px Q.length cx) wr (by rw [← HE.out]; exact HX.out))
      go_wp2_with fail
      refine HC.out.mono ?_
      rintro e w1 ⟨rfl, ho, hb⟩
      have HO := Lib.hid ho
      have HB1 := Lib.hid (HB.out.trans hb)
      clear ho hb
      go_wp2_with fail
      go_ret
      refine ⟨_, rfl, ?_, HB1.out⟩
      unfold Sh.path OwnH
      rw [List.map_reverse, List.length_reverse]
      exact HO.out
    · have hq : (y != 0) = true := by simp [hy]
      obtain ⟨k, hk, hw⟩ := HW.out.next HR.out hy
      subst hk
      have HW2 := Lib.hid hw
      clear hw hy
      go_wp2_with (at_builtin; refine wpList_append_own _ rfl _ _ 43 rfl w.heap.size 33 i0 (.int .i64 0) 1 8 Tryd.underlying43 hinf hz0 hz1 hz2 rfl (by decide) _ _ _ rfl (HX.out.alloc _) ⟨wr.heap.size, 0, none⟩ 1 1 [.int .i64 y] rfl rfl ?a1 ?a2 ?a3 ?a4 ?a5 ?_)
      case a1 => exact news_one wr _ _
      case a2 => intro u hu; simp at hu; subst hu; rfl
      case a3 => unfold maxLen; omega
      case a4 => omega
      case a5 => simp; omega
      intro v' w3 hown3 hgrow3 _
      have HO := Lib.hid (show OwnH w.heap.size w3 v' (Q ++ [y]) by unfold OwnH; rw [← ints_snoc, List.length_append]; exact hown3)
      have HB3 := Lib.hid (show Below w.heap.size w w3 from (below_alloc HB.out _).grown hgrow3 (by simp; omega) (fun g e => (HX.out.lt g e).1))
      have HC := Lib.hid (HP.out w3 HB3.out y)
      clear hown3 hgrow3
      generalize getV A y = z at *
      go_wp2_with fail
      refine HC.out.mono ?_
      rintro e w4 ⟨rfl, hb4⟩
      have HO4 := Lib.hid (HO.out.below hb4)
      have HB4 := Lib.hid (bnext HB3.out hb4)
      clear hb4
      go_wp2_with fail
      go_roundg k
      case measure => omega
      case rel => exact ⟨z, Q ++ [y], rfl, HW2, HO4, HB4⟩
end Go.Proofs.YtlcdbblbepndoaaDoor
