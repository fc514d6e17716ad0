/- The program's table of errors' names; Name, Find, nameOrText; no condition. -/
import Derived.Test.YtlnamkplbikcjaaGreatDoorYWord
namespace Go.Proofs.YtlnamkplbikcjaaGreatDoor
open Go.RowKit Ft

namespace Ft
theorem names_len : names.length = 20 := rfl
theorem nN_eq (i : Nat) (h : i < names.length) : nN i = names[i].1 := by unfold nN; rw [List.getD_eq_getElem?_getD, List.getElem?_eq_getElem h]; rfl
theorem nS_eq (i : Nat) (h : i < names.length) : nS i = names[i].2 := by unfold nS; rw [List.getD_eq_getElem?_getD, List.getElem?_eq_getElem h]; rfl
theorem nameL_at {n : Int} {i : Nat} (hi : i < 20) (h : nN i = n) (hno : ∀ j, j < i → nN j ≠ n) : nameL n = nS i := by
  have hi' : i < names.length := hi
  unfold nameL
  have : names.find? (fun x => x.1 == n) = some names[i] := by
    rw [List.find?_eq_some_iff_getElem]
    refine ⟨by rw [← nN_eq i hi', h]; simp, i, hi', rfl, fun j hj => ?_⟩
    have := hno j hj
    rw [nN_eq j (by omega)] at this
    simpa using this
  rw [this, nS_eq i hi']
  rfl
theorem nameL_no {n : Int} (hno : ∀ j, j < 20 → nN j ≠ n) : nameL n = [] := by
  unfold nameL
  have : names.find? (fun x => x.1 == n) = none := by
    rw [List.find?_eq_none]
    intro x hx
    obtain ⟨j, hj, rfl⟩ := List.getElem_of_mem hx
    have := hno j hj
    rw [nN_eq j hj] at this
    simpa using this
  rw [this]
  rfl
theorem findN_at {l : List UInt8} {i : Nat} (hi : i < 20) (h : nS i = l) (hno : ∀ j, j < i → nS j ≠ l) : findN l = some (nN i) := by
  have hi' : i < names.length := hi
  unfold findN
  have : names.find? (fun x => x.2 == l) = some names[i] := by
    rw [List.find?_eq_some_iff_getElem]
    refine ⟨by rw [← nS_eq i hi', h]; simp, i, hi', rfl, fun j hj => ?_⟩
    have := hno j hj
    rw [nS_eq j (by omega)] at this
    simpa using this
  rw [this, nN_eq i hi']
  rfl
theorem findN_no {l : List UInt8} (hno : ∀ j, j < 20 → nS j ≠ l) : findN l = none := by
  unfold findN
  have : names.find? (fun x => x.2 == l) = none := by
    rw [List.find?_eq_none]
    intro x hx
    obtain ⟨j, hj, rfl⟩ := List.getElem_of_mem hx
    have := hno j hj
    rw [nS_eq j hj] at this
    simpa using this
  rw [this]
  rfl
end Ft

/-- The table in a world. -/
def NTab (w : World) (g : Nat) : Prop := ∀ i, i < 20 → w.cell? ⟨g, i * 2, none⟩ = some (.int .i64 (nN i)) ∧ w.cell? ⟨g, i * 2 + 1, none⟩ = some (.string ⟨(nS i).toArray⟩)
theorem NTab.below {w w' : World} {g : Nat} (h : NTab w g) (hb : Below w.heap.size w w') : NTab w' g := by
  intro i hi
  obtain ⟨a, b⟩ := h i hi
  exact ⟨(hb.cell (p := ⟨g, i * 2, none⟩) (cell_blk a)).trans a, (hb.cell (p := ⟨g, i * 2 + 1, none⟩) (cell_blk b)).trans b⟩
set_option maxHeartbeats 1000000 in
set_option maxRecDepth 100000 in
theorem names_any (w : World) : Calls Tryz.prog 56 #[] w fun e w' => ∃ g, e = .returned (.slice (some ⟨g, 0, none⟩) 20 20) ∧ NTab w' g ∧ Below w.heap.size w w' := by
  go_enter Tryz.func56, Tryz.ntmps56
  go_wp2_with fail
  go_ret
  refine ⟨_, rfl, ?_, (Below.refl _ _).alloc (Nat.le_refl _) _⟩
  intro i hi
  rw [Lib.cell_of_heap (has_new w _ _ rfl), Lib.cell_of_heap (has_new w _ _ rfl)]
  match i, hi with
  | 0, _ => exact ⟨rfl, rfl⟩
  | 1, _ => exact ⟨rfl, rfl⟩
  | 2, _ => exact ⟨rfl, rfl⟩
  | 3, _ => exact ⟨rfl, rfl⟩
  | 4, _ => exact ⟨rfl, rfl⟩
  | 5, _ => exact ⟨rfl, rfl⟩
  | 6, _ => exact ⟨rfl, rfl⟩
  | 7, _ => exact ⟨rfl, rfl⟩
  | 8, _ => exact ⟨rfl, rfl⟩
  | 9, _ => exact ⟨rfl, rfl⟩
  | 10, _ => exact ⟨rfl, rfl⟩
  | 11, _ => exact ⟨rfl, rfl⟩
  | 12, _ => exact ⟨rfl, rfl⟩
  | 13, _ => exact ⟨rfl, rfl⟩
  | 14, _ => exact ⟨rfl, rfl⟩
  | 15, _ => exact ⟨rfl, rfl⟩
  | 16, _ => exact ⟨rfl, rfl⟩
  | 17, _ => exact ⟨rfl, rfl⟩
  | 18, _ => exact ⟨rfl, rfl⟩
  | 19, _ => exact ⟨rfl, rfl⟩
  | k + 20, h => exact absurd h (by omega)

set_option maxHeartbeats 1000000 in
theorem name_any (n : Int) (w : World) : Calls Tryz.prog 40 #[.int .i64 n] w fun e w' => e = .returned (.string ⟨(nameL n).toArray⟩) ∧ Below w.heap.size w w' := by
  go_enter Tryz.func40, Tryz.ntmps40
  go_wp2_with fail
  refine (names_any _).mono ?_
  rintro e w1 ⟨g, rfl, HT, hb1⟩
  have HT := Lib.hid HT
  have hb1 := Lib.hid hb1
  go_wp2_with fail
  go_loopw [7] (fun iv wr => ∃ k : Nat, iv = .int .i64 k ∧ k ≤ 20 ∧ Hid (∀ j, j < k → nN j ≠ n) ∧ Hid (NTab wr g) ∧ Hid (Below w.heap.size w wr)) (fun iv _ => 20 - (intOf iv).toNat)
  case atStart => exact ⟨0, rfl, by omega, Lib.hid (fun j hj => by omega), HT, hb1⟩
  case round =>
    obtain ⟨k, rfl, hk, hno, ht, hb⟩ := hrel
    by_cases hkl : k < 20
    · obtain ⟨c0, c1⟩ := ht.out k hkl
      have hkl' : (k : Int) < 20 := by omega
      have hlt := cell_blk c0
      by_cases e : nN k = n
      · have HA := Lib.hid (nameL_at hkl e hno.out)
        rw [e] at c0
        generalize nS k = S at *
        clear hno e
        have hb2 := hb.out
        go_wp2_with fail
        go_ret
        exact ⟨by rw [HA.out]; rfl, bnext hb2 (by repeat (first | exact Below.refl _ _ | (with_reducible assumption) | refine Below.drew ?_ | (refine Below.alloc ?_ (by first | exact Nat.le_refl _ | omega | (simp; done) | (simp; omega)) _) | (refine Below.setCell ?_ (by first | omega | (simp; done) | (simp; omega)) _)))⟩
      · have HS := Lib.hid (show ∀ j, j < k + 1 → nN j ≠ n from fun j hj => by
          rcases Nat.lt_or_ge j k with h | h
          · exact hno.out j h
          · rw [show j = k by omega]; exact e)
        generalize nN k = x at *
        generalize nS k = S at *
        have hz : (x == n) = false := by simpa using e
        clear hno e
        have ht2 := ht.out
        have hb2 := hb.out
        go_wp2_with fail
        go_roundw
        case rel => exact ⟨k + 1, by go_num, by omega, HS, Lib.hid (ht2.below (by repeat (first | exact Below.refl _ _ | (with_reducible assumption) | refine Below.drew ?_ | (refine Below.alloc ?_ (by first | exact Nat.le_refl _ | omega | (simp; done) | (simp; omega)) _) | (refine Below.setCell ?_ (by first | omega | (simp; done) | (simp; omega)) _)))), Lib.hid (bnext hb2 (by repeat (first | exact Below.refl _ _ | (with_reducible assumption) | refine Below.drew ?_ | (refine Below.alloc ?_ (by first | exact Nat.le_refl _ | omega | (simp; done) | (simp; omega)) _) | (refine Below.setCell ?_ (by first | omega | (simp; done) | (simp; omega)) _))))⟩
        case measure => simp [intOf]; omega
    · have hk20 : k = 20 := by omega
      subst hk20
      have HA := Lib.hid (nameL_no hno.out)
      have hb2 := hb.out
      clear hno
      go_wp2_with fail
      go_ret
      exact ⟨by rw [HA.out]; rfl, hb2⟩
set_option maxHeartbeats 1000000 in
/-- The text of an error's number, as Say tells it. -/
theorem nameor (n : Int) (hi : I64 n) (w : World) (hg : LaidAt w) :
    Calls Tryz.prog 23 #[.int .i64 n] w fun e w' => e = .returned (.string ⟨(nbrL true n).toArray⟩) ∧ Below w.heap.size w w' := by
  have HI := Lib.hid (errno_text n hi)
  have HG := Lib.hid hg
  have HN := Lib.hid (name_any n)
  clear hi hg
  unfold nbrL
  cases hx : nameL n with
  | nil =>
    rw [hx] at HN
    have HX := Lib.hid hx
    clear hx
    rw [if_neg (by simp)]
    go_enter Tryz.func23, Tryz.ntmps23
    go_wp2_with fail
    refine (HN.out _).mono ?_
    rintro e w1 ⟨rfl, hb1⟩
    go_wp2_with fail
    refine (HI.out _ (HG.out.below hb1)).mono ?_
    rintro e w2 ⟨rfl, hb2⟩
    go_wp2_with fail
    go_ret
    exact ⟨rfl, bnext hb1 hb2⟩
  | cons x l =>
    rw [hx] at HN
    have HX := Lib.hid hx
    clear hx
    rw [if_pos (by simp)]
    go_enter Tryz.func23, Tryz.ntmps23
    go_wp2_with fail
    refine (HN.out _).mono ?_
    rintro e w1 ⟨rfl, hb1⟩
    go_wp2_with fail
    go_ret
    exact ⟨rfl, hb1⟩
end Go.Proofs.YtlnamkplbikcjaaGreatDoor
