/- The library's slices.Index, Contains, Reverse at handles; no condition but those that each row names. -/
import Derived.Test.YtlcdbblbepndoaaDoorSHand
import Derived.Test.YtlcdbblbepndoaaDoorSKeep
import Derived.RegionTactic
import Derived.BigRegion
import Derived.Deep.CutBlock
import Derived.Deep.CutRange
import Derived.Deep.DeepCutAuto
namespace Go.Proofs.YtlcdbblbepndoaaDoor
open Go.RowKit

/-- Where a number stands; -1: nowhere. -/
def idxI (l : List Int) (x : Int) : Int := match firstIn (fun j => decide (l.getD j 0 = x)) l.length with
  | none => -1
  | some i => i
set_option maxHeartbeats 1000000 in
theorem index_any (S : Nat → Prop) (l : List Int) (x : Int) (v : Value) (w : World) (h : Lst S w v (ints l)) :
    Calls Tryd.prog 68 #[v, .int .i64 x] w fun e w' => e = .returned (.int .i64 (idxI l x)) ∧ w = w' := by
  obtain ⟨p, cp, rfl, hm, hg⟩ := h
  rw [ints_len] at hm ⊢
  have HG := Lib.hid hg
  clear hg
  go_enter Tryd.func68, Tryd.ntmps68
  go_wp2_with fail
  go_loop [5, 8] (fun _ i => ∃ k : Nat, k ≤ l.length ∧ i = .int .i64 k ∧ Hid (∀ j, j < k → decide (l.getD j 0 = x) = false)) (fun _ i => l.length - (intOf i).toNat)
  case atStart => exact ⟨0, Nat.zero_le _, rfl, Lib.hid (fun j hj => by omega)⟩
  case round =>
    obtain ⟨k, hk, rfl, HF⟩ := hrel
    by_cases hlt : k < l.length
    · obtain ⟨b, off, rfl, _, hc⟩ := HG.out k _ (ints_at hlt)
      by_cases hx : l.getD k 0 = x
      · have HR := Lib.hid (firstIn_some (p := fun j => decide (l.getD j 0 = x)) (n := l.length) HF.out hlt (by simpa using hx))
        have hq : (x == l.getD k 0) = true := by rw [beq_iff_eq]; exact hx.symm
        generalize l.getD k 0 = y at *
        clear hx
        go_wp2_with fail
        go_ret
        exact ⟨ret_int (by unfold idxI; rw [HR.out]), rfl⟩
      · have HF2 := Lib.hid (show ∀ j, j < k + 1 → decide (l.getD j 0 = x) = false from fun j hj => by
          by_cases e : j = k
          · subst e; exact decide_eq_false hx
          · exact HF.out j (by omega))
        have hq : (x == l.getD k 0) = false := by rw [beq_eq_false_iff_ne]; exact fun e => hx (Eq.symm e)
        generalize l.getD k 0 = y at *
        clear hx
        go_wp2_with fail
        go_round
        case rel => exact ⟨k + 1, by omega, by go_num, HF2⟩
        case measure => simp [intOf]; omega
    · have hkl : k = l.length := by omega
      have HR := Lib.hid (firstIn_none (p := fun j => decide (l.getD j 0 = x)) (n := l.length) (fun j hj => HF.out j (by omega)))
      clear hkl
      go_wp2_with fail
      go_ret
      exact ⟨ret_int (by unfold idxI; rw [HR.out]), rfl⟩
theorem idxI_iff (l : List Int) (x : Int) : decide (0 ≤ idxI l x) = decide (x ∈ l) := by
  unfold idxI
  cases h : firstIn (fun j => decide (l.getD j 0 = x)) l.length with
  | some i =>
    obtain ⟨h1, h2⟩ := firstIn_inv h
    simp only [decide_eq_true_eq] at h2
    have : x ∈ l := by
      rw [← h2, List.getD_eq_getElem?_getD, List.getElem?_eq_getElem h1]
      exact List.getElem_mem h1
    simp [this]
  | none =>
    have h1 := firstIn_inv_none h
    have : x ∉ l := fun hx => by
      obtain ⟨j, hj, e⟩ := List.getElem_of_mem hx
      have := h1 j hj
      rw [List.getD_eq_getElem?_getD, List.getElem?_eq_getElem hj] at this
      simp [e] at this
    simp [this]
theorem contains_any (S : Nat → Prop) (l : List Int) (x : Int) (v : Value) (w : World) (h : Lst S w v (ints l)) :
    Calls Tryd.prog 58 #[v, .int .i64 x] w fun e w' => e = .returned (.bool (decide (x ∈ l))) ∧ w = w' := by
  have HI := Lib.hid (index_any S l x v w h)
  have HE := Lib.hid (idxI_iff l x)
  obtain ⟨p, cp, rfl, _, _⟩ := h
  generalize decide (x ∈ l) = q at *
  generalize idxI l x = y at *
  go_enter Tryd.func58, Tryd.ntmps58
  go_wp2_with fail
  refine HI.out.mono ?_
  rintro e w1 ⟨rfl, rfl⟩
  go_wp2_with fail
  go_ret
  exact ⟨ret_bool HE.out, rfl⟩

/-- The first k and the last k have changed places. -/
def revTo (l : List Int) (k : Nat) : List Int := (List.range l.length).map fun j => if j < k ∨ l.length - k ≤ j then l.getD (l.length - 1 - j) 0 else l.getD j 0
theorem revTo_len (l : List Int) (k : Nat) : (revTo l k).length = l.length := by simp [revTo]
theorem revTo_at (l : List Int) (k j : Nat) (h : j < l.length) : (revTo l k).getD j 0 = if j < k ∨ l.length - k ≤ j then l.getD (l.length - 1 - j) 0 else l.getD j 0 := by
  simp [revTo, List.getD_eq_getElem?_getD, h]
theorem list_ext {a b : List Int} (hl : a.length = b.length) (h : ∀ j, j < a.length → a.getD j 0 = b.getD j 0) : a = b := by
  refine List.ext_getElem hl fun j h1 h2 => ?_
  have := h j h1
  simpa [List.getD_eq_getElem?_getD, h1, h2] using this
theorem revTo_0 (l : List Int) : revTo l 0 = l := by
  refine list_ext (revTo_len l 0) fun j hj => ?_
  rw [revTo_len] at hj
  rw [revTo_at l 0 j hj, if_neg (by omega)]
theorem revTo_end (l : List Int) (k : Nat) (hk : l.length - 1 - k ≤ k) (hk2 : 2 * k ≤ l.length) : revTo l k = l.reverse := by
  refine list_ext (by simp [revTo_len]) fun j hj => ?_
  rw [revTo_len] at hj
  rw [revTo_at l k j hj]
  have : l.reverse.getD j 0 = l.getD (l.length - 1 - j) 0 := by
    simp only [List.getD_eq_getElem?_getD]
    rw [List.getElem?_reverse hj]
  rw [this]
  split
  · rfl
  · have : l.length - 1 - j = j := by omega
    rw [this]
theorem revTo_step (l : List Int) (k : Nat) (hk : k < l.length - 1 - k) : ((revTo l k).set k ((revTo l k).getD (l.length - 1 - k) 0)).set (l.length - 1 - k) ((revTo l k).getD k 0) = revTo l (k + 1) := by
  refine list_ext (by simp [revTo_len]) fun j hj => ?_
  simp only [List.length_set, revTo_len] at hj
  rw [getD_set _ _ _ _ _ (by simp [revTo_len]; omega), getD_set _ _ _ _ _ (by rw [revTo_len]; omega), revTo_at l (k + 1) j hj, revTo_at l k k (by omega), revTo_at l k (l.length - 1 - k) (by omega), revTo_at l k j hj]
  by_cases e1 : l.length - 1 - k = j
  · subst e1
    rw [if_pos rfl, if_neg (by omega), if_pos (by omega)]
    congr 1; omega
  · rw [if_neg e1]
    by_cases e2 : k = j
    · subst e2
      rw [if_pos rfl, if_neg (by omega), if_pos (by omega)]
    · rw [if_neg e2]
      by_cases e3 : j < k ∨ l.length - k ≤ j
      · rw [if_pos e3, if_pos (by omega)]
      · rw [if_neg e3, if_neg (by omega)]

set_option maxHeartbeats 1000000 in
set_option maxRecDepth 100000 in
theorem reverse_own (B : Nat) (l : List Int) (v : Value) (w : World) (h : w.ownsRow B 33 1 v l.length (ints l)) (h4 : l.length ≤ 4096) :
    Calls Tryd.prog 61 #[v] w fun e w' => e = .returned (.tuple #[]) ∧ w'.ownsRow B 33 1 v l.length (ints l.reverse) ∧ Below B w w' := by
  obtain ⟨p, cap, rfl⟩ := own_shape h (ints_len l)
  have H0 := Lib.hid (show w.ownsRow B 33 1 (.slice p l.length cap) l.length (ints (revTo l 0)) by rw [revTo_0]; exact h)
  clear h
  go_enter Tryd.func61, Tryd.ntmps61
  go_wp2_with fail
  go_loopw [2, 3] (fun i j wr => ∃ k : Nat, 2 * k ≤ l.length ∧ i = .int .i64 k ∧ j = .int .i64 ((l.length : Int) - 1 - k) ∧ Hid (wr.ownsRow B 33 1 (.slice p l.length cap) l.length (ints (revTo l k))) ∧ Hid (Below B w wr)) (fun i _ _ => l.length - (intOf i).toNat)
  case atStart => exact ⟨0, by omega, rfl, by go_num, H0, Lib.hid (Below.refl _ _)⟩
  case round =>
    obtain ⟨k, hk, rfl, rfl, HO, HB⟩ := hrel
    clear H0
    by_cases hlt : k < l.length - 1 - k
    · obtain ⟨m, hm⟩ : ∃ m, m = l.length - 1 - k := ⟨_, rfl⟩
      have hmi : (l.length : Int) - 1 - k = (m : Int) := by omega
      have HS := Lib.hid (revTo_step l k hlt)
      rw [← hm] at HS
      rw [hmi]
      have hkl : k < l.length := by omega
      have hml : m < l.length := by omega
      have hkm : k < m := by omega
      have hne : ¬ m = k := by omega
      obtain ⟨g, cap2, _, hp, hBg, hrest⟩ := own_block HO.out (by omega)
      clear hrest
      injection hp with hp1 hp2 hp3
      clear hp2
      subst hp1
      subst hp3
      have q1 := HO.out.cellAt k (by omega)
      have q2 := HO.out.cellAt m (by omega)
      rw [ints_at (by rw [revTo_len]; exact hkl)] at q1
      rw [ints_at (by rw [revTo_len]; exact hml)] at q2
      have q3 := HO.out.frozenAt k
      have q4 := HO.out.frozenAt m
      have HT := Lib.hid (show ((wr.setCell ⟨g, k, none⟩ (.int .i64 ((revTo l k).getD m 0))).setCell ⟨g, m, none⟩ (.int .i64 ((revTo l k).getD k 0))).drew.ownsRow B 33 1 (.slice (some ⟨g, 0, none⟩) l.length cap) l.length (ints (revTo l (k + 1))) from by
        have h1 := (HO.out.stored k (.int .i64 ((revTo l k).getD m 0))).1
        have h2 := (h1.stored m (.int .i64 ((revTo l k).getD k 0))).1
        rw [ints_set, ints_set, HS.out] at h2
        exact h2)
      have HW := Lib.hid (show Below B w ((wr.setCell ⟨g, k, none⟩ (.int .i64 ((revTo l k).getD m 0))).setCell ⟨g, m, none⟩ (.int .i64 ((revTo l k).getD k 0))).drew from
        below_drew ((HB.out.setCell (p := ⟨g, k, none⟩) hBg _).setCell (p := ⟨g, m, none⟩) hBg _))
      have k0 : (0 : Int) ≤ (k : Int) := by omega
      have k1 : (k : Int) < (l.length : Int) := by omega
      have m0 : (0 : Int) ≤ (m : Int) := by omega
      have m1 : (m : Int) < (l.length : Int) := by omega
      have km : (k : Int) < (m : Int) := by omega
      generalize (revTo l k).getD k 0 = y at *
      generalize (revTo l k).getD m 0 = z at *
      have HM := Lib.hid hm
      clear HS hm hmi hlt
      go_upto_block 1 with fail
      go_cut [] (fun wx => Hid (wx.ownsRow B 33 1 (.slice (some ⟨g, 0, none⟩) l.length cap) l.length (ints (revTo l (k + 1)))) ∧ Hid (Below B w wx))
      case first =>
        go_wp2_with fail
        go_region
        all_goals go_wp2_with fail
        all_goals
          go_meet
          exact ⟨HT, HW⟩
      case rest =>
        obtain ⟨K1, K2⟩ := hcut
        clear HT HW q1 q2 q3 q4
        go_wp2_with fail
        go_roundw
        case rel => exact ⟨k + 1, by have := HM.out; omega, by go_num, congrArg (Value.int .i64) (by have := HM.out; omega), K1, K2⟩
        case measure => simp [intOf]; omega
    · have HE := Lib.hid (revTo_end l k (by omega) hk)
      have hge : ((l.length : Int) - 1 - k) ≤ (k : Int) := by omega
      clear hlt
      go_wp2_with fail
      go_end0
      exact ⟨rfl, by rw [← HE.out]; exact HO.out, HB.out⟩
end Go.Proofs.YtlcdbblbepndoaaDoor
