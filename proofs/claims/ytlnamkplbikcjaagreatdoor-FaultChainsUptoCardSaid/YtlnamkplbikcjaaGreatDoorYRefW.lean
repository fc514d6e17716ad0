/- The document's names of errors and operations, Told; at every int, every text; no condition. -/
import Derived.Test.YtlnamkplbikcjaaGreatDoorYDigits
import Derived.Test.YtlnamkplbikcjaaGreatDoorYNames
namespace Go.Proofs.YtlnamkplbikcjaaGreatDoor
open Go.RowKit Ft

/-- The two lists in a world. -/
def NmT (w : World) (g : Nat) : Prop := ∀ i, i < 20 → w.cell? ⟨g, i, none⟩ = some (.string ⟨(nS i).toArray⟩)
def NbT (w : World) (g : Nat) : Prop := ∀ i, i < 20 → w.cell? ⟨g, i, none⟩ = some (.int .i64 (nN i))
theorem NmT.below {w w' : World} {g : Nat} (h : NmT w g) (hb : Below w.heap.size w w') : NmT w' g := fun i hi => (hb.cell (p := ⟨g, i, none⟩) (cell_blk (h i hi))).trans (h i hi)
theorem NbT.below {w w' : World} {g : Nat} (h : NbT w g) (hb : Below w.heap.size w w') : NbT w' g := fun i hi => (hb.cell (p := ⟨g, i, none⟩) (cell_blk (h i hi))).trans (h i hi)
set_option maxHeartbeats 1000000 in
set_option maxRecDepth 100000 in
theorem rnames (w : World) : Calls Tryz.prog 59 #[] w fun e w' => ∃ g, e = .returned (.slice (some ⟨g, 0, none⟩) 20 20) ∧ NmT w' g ∧ Below w.heap.size w w' := by
  go_enter Tryz.func59, Tryz.ntmps59
  go_wp2_with fail
  go_ret
  refine ⟨_, rfl, ?_, (Below.refl _ _).alloc (Nat.le_refl _) _⟩
  intro i hi
  rw [Lib.cell_of_heap (has_new w _ _ rfl)]
  match i, hi with
  | 0, _ => rfl
  | 1, _ => rfl
  | 2, _ => rfl
  | 3, _ => rfl
  | 4, _ => rfl
  | 5, _ => rfl
  | 6, _ => rfl
  | 7, _ => rfl
  | 8, _ => rfl
  | 9, _ => rfl
  | 10, _ => rfl
  | 11, _ => rfl
  | 12, _ => rfl
  | 13, _ => rfl
  | 14, _ => rfl
  | 15, _ => rfl
  | 16, _ => rfl
  | 17, _ => rfl
  | 18, _ => rfl
  | 19, _ => rfl
  | k + 20, h => exact absurd h (by omega)
set_option maxHeartbeats 1000000 in
set_option maxRecDepth 100000 in
theorem rnumbers (w : World) : Calls Tryz.prog 58 #[] w fun e w' => ∃ g, e = .returned (.slice (some ⟨g, 0, none⟩) 20 20) ∧ NbT w' g ∧ Below w.heap.size w w' := by
  go_enter Tryz.func58, Tryz.ntmps58
  go_wp2_with fail
  go_ret
  refine ⟨_, rfl, ?_, (Below.refl _ _).alloc (Nat.le_refl _) _⟩
  intro i hi
  rw [Lib.cell_of_heap (has_new w _ _ rfl)]
  match i, hi with
  | 0, _ => rfl
  | 1, _ => rfl
  | 2, _ => rfl
  | 3, _ => rfl
  | 4, _ => rfl
  | 5, _ => rfl
  | 6, _ => rfl
  | 7, _ => rfl
  | 8, _ => rfl
  | 9, _ => rfl
  | 10, _ => rfl
  | 11, _ => rfl
  | 12, _ => rfl
  | 13, _ => rfl
  | 14, _ => rfl
  | 15, _ => rfl
  | 16, _ => rfl
  | 17, _ => rfl
  | 18, _ => rfl
  | 19, _ => rfl
  | k + 20, h => exact absurd h (by omega)
set_option maxHeartbeats 1000000 in
theorem rname16 (n : Int) (w : World) : Calls Tryz.prog 42 #[.int .i64 n] w fun e w' => e = .returned (.string ⟨(nameL n).toArray⟩) ∧ Below w.heap.size w w' := by
  go_enter Tryz.func42, Tryz.ntmps42
  go_wp2_with fail
  refine (rnumbers _).mono ?_
  rintro e w1 ⟨g, rfl, HT, hb1⟩
  have HT := Lib.hid HT
  have hb1 := Lib.hid hb1
  go_wp2_with fail
  go_loopw [4] (fun iv wr => ∃ k : Nat, iv = .int .i64 k ∧ k ≤ 20 ∧ Hid (∀ j, j < k → nN j ≠ n) ∧ w1 = wr) (fun iv _ => 20 - (intOf iv).toNat)
  case atStart => exact ⟨0, rfl, by omega, Lib.hid (fun j hj => by omega), rfl⟩
  case round =>
    obtain ⟨k, rfl, hk, hno, rfl⟩ := hrel
    by_cases hkl : k < 20
    · have c0 := HT.out k hkl
      have hkl' : (k : Int) < 20 := by omega
      have hk0 : (0 : Int) ≤ (k : Int) := by omega
      by_cases e : nN k = n
      · have HA := Lib.hid (nameL_at hkl e hno.out)
        have HR := Lib.hid (rnames w1)
        rw [e] at c0
        clear hno e
        go_wp2_with fail
        refine HR.out.mono ?_
        rintro e w2 ⟨g2, rfl, ht2, hb2⟩
        have c2 := ht2 k hkl
        clear ht2
        generalize nS k = S at *
        go_wp2_with fail
        go_ret
        exact ⟨by rw [HA.out]; rfl, bnext hb1.out hb2⟩
      · have HS := Lib.hid (show ∀ j, j < k + 1 → nN j ≠ n from fun j hj => by
          rcases Nat.lt_or_ge j k with h | h
          · exact hno.out j h
          · rw [show j = k by omega]; exact e)
        generalize nN k = x at *
        have hz : (x == n) = false := by simpa using e
        clear hno e
        go_wp2_with fail
        go_roundw
        case rel => exact ⟨k + 1, by go_num, by omega, HS, (by first | rfl | trivial)⟩
        case measure => simp [intOf]; omega
    · have hk20 : k = 20 := by omega
      subst hk20
      have HA := Lib.hid (nameL_no hno.out)
      clear hno
      go_wp2_with fail
      go_ret
      exact ⟨by rw [HA.out]; rfl, hb1.out⟩
set_option maxHeartbeats 1000000 in
theorem rtold (h : Int) (hi : I64 h) (w : World) :
    Calls Tryz.prog 45 #[.int .i64 h] w fun e w' => e = .returned (.string ⟨(toldL h).toArray⟩) ∧ Below w.heap.size w w' := by
  have hl := itoa_len h hi
  have n1 : ¬ 9223372036854775807 < 1 + (Lib.itoa h).length := by omega
  have HI := Lib.hid (signed_any h hi)
  have HT := Lib.hid (rtext_any h)
  unfold toldL
  clear hi hl
  cases hx : textL h with
  | nil =>
    rw [hx] at HT
    have HX := Lib.hid hx
    clear hx
    rw [if_pos rfl]
    go_enter Tryz.func45, Tryz.ntmps45
    go_wp2_with fail
    refine (HT.out _).mono ?_
    rintro e w1 ⟨rfl, hb1⟩
    go_wp2_with fail
    refine (HI.out _).mono ?_
    rintro e w2 ⟨rfl, hb2⟩
    go_wp2_with fail
    go_ret
    exact ⟨ret_str (by rw [show (35 :: Lib.itoa h : List UInt8) = [35] ++ Lib.itoa h from rfl, ← cat2]), bnext hb1 hb2⟩
  | cons x l =>
    rw [hx] at HT
    have HX := Lib.hid hx
    clear hx
    rw [if_neg (by simp)]
    go_enter Tryz.func45, Tryz.ntmps45
    go_wp2_with fail
    refine (HT.out _).mono ?_
    rintro e w1 ⟨rfl, hb1⟩
    go_wp2_with fail
    go_ret
    exact ⟨rfl, hb1⟩
set_option maxHeartbeats 1000000 in
set_option maxRecDepth 100000 in
theorem ropname (op : Int) (hi : I64 op) (w : World) :
    Calls Tryz.prog 44 #[.int .i64 op] w fun e w' => e = .returned (.string ⟨(opL op).toArray⟩) ∧ Below w.heap.size w w' := by
  have hl := itoa_len op hi
  have n1 : ¬ 9223372036854775807 < 3 + (Lib.itoa op).length := by omega
  have HI := Lib.hid (signed_any op hi)
  clear hl hi
  by_cases h : 1 ≤ op ∧ op ≤ 9
  · have hc : op = 1 ∨ op = 2 ∨ op = 3 ∨ op = 4 ∨ op = 5 ∨ op = 6 ∨ op = 7 ∨ op = 8 ∨ op = 9 := by omega
    clear h n1 HI
    rcases hc with rfl | rfl | rfl | rfl | rfl | rfl | rfl | rfl | rfl
    all_goals
      go_enter Tryz.func44, Tryz.ntmps44
      go_wp2_with fail
      go_ret
      exact ⟨rfl, (by repeat (first | exact Below.refl _ _ | (with_reducible assumption) | refine Below.drew ?_ | (refine Below.alloc ?_ (by first | exact Nat.le_refl _ | omega | (simp; done) | (simp; omega)) _) | (refine Below.setCell ?_ (by first | omega | (simp; done) | (simp; omega)) _)))⟩
  · have HO := Lib.hid (show opL op = [111, 112, 32] ++ Lib.itoa op by unfold opL; rw [if_neg h])
    by_cases h1 : 1 ≤ op
    · have h2 : 9 < op := by omega
      clear h
      go_enter Tryz.func44, Tryz.ntmps44
      go_wp2_with fail
      refine (HI.out _).mono ?_
      rintro e w1 ⟨rfl, hb1⟩
      go_wp2_with fail
      go_ret
      exact ⟨ret_str (by rw [HO.out, ← cat2]), bnext (by repeat (first | exact Below.refl _ _ | (with_reducible assumption) | refine Below.drew ?_ | (refine Below.alloc ?_ (by first | exact Nat.le_refl _ | omega | (simp; done) | (simp; omega)) _) | (refine Below.setCell ?_ (by first | omega | (simp; done) | (simp; omega)) _))) hb1⟩
    · clear h
      go_enter Tryz.func44, Tryz.ntmps44
      go_wp2_with fail
      refine (HI.out _).mono ?_
      rintro e w1 ⟨rfl, hb1⟩
      go_wp2_with fail
      go_ret
      exact ⟨ret_str (by rw [HO.out, ← cat2]), bnext (by repeat (first | exact Below.refl _ _ | (with_reducible assumption) | refine Below.drew ?_ | (refine Below.alloc ?_ (by first | exact Nat.le_refl _ | omega | (simp; done) | (simp; omega)) _) | (refine Below.setCell ?_ (by first | omega | (simp; done) | (simp; omega)) _))) hb1⟩
end Go.Proofs.YtlnamkplbikcjaaGreatDoor
