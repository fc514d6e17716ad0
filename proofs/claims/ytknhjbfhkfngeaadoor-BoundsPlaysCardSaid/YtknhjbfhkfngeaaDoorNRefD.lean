/- The document's own calendar: Due; no condition but those that each row names. -/
import Derived.Test.YtknhjbfhkfngeaaDoorNRefC
import Derived.Test.YtknhjbfhkfngeaaDoorNApp
namespace Go.Proofs.YtknhjbfhkfngeaaDoor
open Go.RowKit Cal

/-- The numbers of the first k. -/
def idsL (L : List Pr) (k : Nat) : List Value := (L.take k).map fun p => Value.int .i64 p.1
theorem idsL_succ {L : List Pr} {k : Nat} (h : k < L.length) : idsL L (k + 1) = idsL L k ++ [.int .i64 L[k].1] := by
  unfold idsL
  rw [List.take_add_one, List.getElem?_eq_getElem h, List.map_append]
  rfl
abbrev NumR (B : Nat) (w : World) (v : Value) (L : List Pr) (k : Nat) : Prop := w.ownsRow B 3 1 v k (idsL L k)
/-- Items of one's own. -/
abbrev ItsB (B : Nat) (w : World) (v : Value) (L : List Pr) : Prop := w.ownsRow B RT 2 v L.length (prL L)
/-- What Due answers: the list that is left, the numbers that came up. -/
def DuePost (w : World) (L : List Pr) (K : Nat) (e : Ending) (w' : World) : Prop := ∃ v1 v2, e = .returned (.tuple #[v1, v2]) ∧ ItsB w.heap.size w' v1 (L.drop K) ∧ NumR w.heap.size w' v2 L K ∧ Below w.heap.size w w'
set_option maxHeartbeats 4000000 in
set_option maxRecDepth 100000 in
theorem rdue_any (w : World) (v : Value) (L : List Pr) (h : Its w v L) (h4 : L.length ≤ 4096) (till : Int) :
    Calls Tryd.prog 11 #[v, .int .i64 till] w (DuePost w L (dueN till L)) := by
  have HV := Lib.hid (fun W (hb : Below w.heap.size w W) => h.below hb)
  have HGL := Lib.hid (dueN_le (t := till) L)
  have HAH := Lib.hid (fun j (hj : j < dueN till L) (h : j < L.length) => dueN_in hj h)
  have HST := Lib.hid (fun (h : dueN till L < L.length) => dueN_stop h)
  obtain ⟨p1, cap, rfl, hlc⟩ := own_small h
  have HC := Lib.hid (show ∀ W (hb : Below w.heap.size w W) j (hj : j < L.length), ∃ g, p1 = some ⟨g, 0, none⟩ ∧ W.cell? ⟨g, j * 2, none⟩ = some (.int .i64 L[j].1) ∧ W.cell? ⟨g, j * 2 + 1, none⟩ = some (.int .i64 L[j].2) from fun W hb j hj => by
    have h1 := h.below hb
    obtain ⟨g, cap', e, _, _⟩ := own_block2 h1 (by omega)
    cases e
    exact ⟨g, rfl, Its.cells h1 j hj⟩)
  generalize dueN till L = K at *
  clear h
  go_enter Tryd.func11, Tryd.ntmps11
  go_wp2_with fail
  go_loopw [6, 7] (fun iv dv wr => ∃ (k : Nat), k ≤ K ∧ iv = .int .i64 k ∧ Hid (NumR w.heap.size wr dv L k) ∧ Hid (Below w.heap.size w wr)) (fun iv _ _ => L.length - (intOf iv).toNat)
  case atStart => exact ⟨0, Nat.zero_le _, rfl, Lib.hid (World.ownsRow_nil _ _ _ _), Lib.hid (Below.refl _ _)⟩
  case round =>
    obtain ⟨k, hk, rfl, HN, HB⟩ := hrel
    have hkm := HGL.out
    obtain ⟨pd, cd, hdv, _⟩ := own_small HN.out
    subst hdv
    by_cases hlt : k < L.length
    · have hlt' : (k : Int) < (L.length : Int) := by omega
      obtain ⟨g, rfl, c0, c1⟩ := HC.out wr HB.out k hlt
      by_cases hkk : k < K
      · have hl := HAH.out k hkk hlt
        have HE := Lib.hid (idsL_succ hlt)
        generalize L[k].1 = xi at *
        generalize L[k].2 = xk at *
        have HNA := Lib.hid (own_under HN.out ((Below.refl wr.heap.size wr).alloc (Nat.le_refl _) (.cells #[.int .i64 xi] 3)))
        have HBA := Lib.hid (below_alloc HB.out (.cells #[.int .i64 xi] 3))
        go_wp2_with (at_builtin; refine wpList_append_ints rfl _ _ rfl w.heap.size _ k (idsL L k) rfl HNA.out _ 1 [.int .i64 xi] rfl (src_int wr xi 3) (by intro u hu; simp at hu; subst hu; rfl) (by omega) HBA.out.size ?_)
        intro p2 c2 w2 hown hgrow hat
        have HN2 := Lib.hid (show NumR w.heap.size w2 (.slice p2 (k + 1) c2) L (k + 1) from by
          unfold NumR
          rw [HE.out]
          exact hown)
        have HB2 := Lib.hid (HBA.out.grown hgrow HBA.out.size (fun b e => (World.ownsRow.lt HNA.out b e).1))
        clear hown hgrow hat
        go_wp2_with fail
        go_roundw
        case rel => exact ⟨k + 1, by omega, by go_num, HN2, HB2⟩
        case measure => simp [intOf]; omega
      · obtain rfl : k = K := by omega
        have hl := HST.out hlt
        generalize L[k].1 = xi at *
        generalize L[k].2 = xk at *
        have hl1 : decide (xk ≤ till) = false := decide_eq_false (by omega)
        have z1 : (k : Int) ≤ (cap : Int) := by omega
        clear hl hkk
        have H := Lib.hid (HV.out wr HB.out)
        go_wp2_with (at_builtin; refine wpList_append_its rfl _ _ rfl w.heap.size (.slice none 0 0) 0 [] rfl (World.ownsRow_nil _ _ _ _) _ (L.length - k) (prL (L.drop k)) rfl (src_tail H.out (Below.refl _ _) k hkm (cap - k)) (prL_one _) (by omega) HB.out.size ?_)
        all_goals
          intro p3 c3 w3 ho3 hg3 ha3
          have HI3 := Lib.hid (show ItsB w.heap.size w3 (.slice p3 (L.length - k) c3) (L.drop k) from by
            try rw [Nat.zero_add] at ho3
            unfold ItsB
            rw [List.length_drop]
            exact ho3)
          have HN3 := Lib.hid (own_under HN.out (below_of_grown hg3))
          have HB3 := Lib.hid (bnext HB.out (below_of_grown hg3))
          clear ho3 hg3 ha3
          go_wp2_with fail
          go_ret2
          exact ⟨_, _, rfl, HI3.out, HN3.out, HB3.out⟩
    · have hg3 : decide (k < L.length) = false := decide_eq_false hlt
      have hle2 : L.length ≤ k := by omega
      obtain rfl : k = K := by omega
      have H := Lib.hid (HV.out wr HB.out)
      have z1 : (k : Int) ≤ (cap : Int) := by omega
      have z2 : (k : Int) ≤ (L.length : Int) := by omega
      have hd : L.drop k = [] := List.drop_of_length_le hle2
      rcases H.out.2 with ⟨hv, hz⟩ | ⟨g0, cap', cur, hv, _⟩
      · injection hv with e1 e2 e3
        have hM0 : L = [] := List.eq_nil_of_length_eq_zero hz
        have hK0 : k = 0 := by omega
        clear e2 hz H HC HAH HST
        subst e1 e3 hM0 hK0
        go_wp2_with (at_builtin; refine wpList_append_its rfl _ _ rfl w.heap.size (.slice none 0 0) 0 [] rfl (World.ownsRow_nil _ _ _ _) _ 0 [] rfl (src_none _ _ _) (by simp) (by omega) HB.out.size ?_)
        all_goals
          intro p3 c3 w3 ho3 hg3 ha3
          have HI3 := Lib.hid (show ItsB w.heap.size w3 (.slice p3 0 c3) [] from ho3)
          have HN3 := Lib.hid (own_under HN.out (below_of_grown hg3))
          have HB3 := Lib.hid (bnext HB.out (below_of_grown hg3))
          clear ho3 hg3 ha3
          go_wp2_with fail
          go_ret2
          exact ⟨_, _, rfl, HI3.out, HN3.out, HB3.out⟩
      · injection hv with e1 e2 e3
        clear e2
        subst e1 e3
        have HD := Lib.hid hd
        clear hd hlt hle2
        go_wp2_with (at_builtin; refine wpList_append_its rfl _ _ rfl w.heap.size (.slice none 0 0) 0 [] rfl (World.ownsRow_nil _ _ _ _) _ (L.length - k) (prL (L.drop k)) rfl (src_tail_if H.out hlc (Below.refl _ _) k hkm) (prL_one _) (by omega) HB.out.size ?_)
        all_goals
          intro p3 c3 w3 ho3 hg3 ha3
          have HI3 := Lib.hid (show ItsB w.heap.size w3 (.slice p3 (L.length - k) c3) (L.drop k) from by
            try rw [Nat.zero_add] at ho3
            unfold ItsB
            rw [List.length_drop]
            exact ho3)
          have HN3 := Lib.hid (own_under HN.out (below_of_grown hg3))
          have HB3 := Lib.hid (bnext HB.out (below_of_grown hg3))
          clear ho3 hg3 ha3
          go_wp2_with fail
          go_ret2
          exact ⟨_, _, rfl, HI3.out, HN3.out, HB3.out⟩
end Go.Proofs.YtknhjbfhkfngeaaDoor
