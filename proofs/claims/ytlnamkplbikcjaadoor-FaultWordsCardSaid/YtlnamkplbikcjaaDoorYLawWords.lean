/- The law FaultWords: the names of all errors and operations, the errors of all names, what is told of all handles; no condition but what the rows' listed variables hold. -/
import Derived.Test.YtlnamkplbikcjaaDoorYRefW
import Derived.Test.YtlnamkplbikcjaaDoorYWorks
import Derived.Test.YtlnamkplbikcjaaDoorYOpens
namespace Go.Proofs.YtlnamkplbikcjaaDoor
open Go.RowKit Ft

theorem names_ne : ∀ i, i < 20 → nS i ≠ [] := by
  intro i hi
  have h : ∀ j : Fin 20, nS j.val ≠ [] := by decide
  exact h ⟨i, hi⟩
/-- The error of a number's name is the number. -/
theorem find_name (n : Int) (h : nameL n ≠ []) : findN (nameL n) = some n := by
  have hd : ∀ i : Fin 20, findN (nS i.val) = some (nN i.val) := by decide
  by_cases he : ∃ i, i < 20 ∧ nN i = n ∧ ∀ j, j < i → nN j ≠ n
  · obtain ⟨i, hi, hn, hno⟩ := he
    rw [nameL_at hi hn hno, hd ⟨i, hi⟩]
    exact congrArg some hn
  · refine absurd (nameL_no (fun j hj hjn => ?_)) h
    -- the first one
    apply he
    have hex : ∃ i, i < 20 ∧ nN i = n := ⟨j, hj, hjn⟩
    clear he h hjn
    have key : ∀ k, (∀ i, i < k → nN i ≠ n) ∨ ∃ i, i < k ∧ nN i = n ∧ ∀ j, j < i → nN j ≠ n := by
      intro k
      induction k with
      | zero => exact .inl (fun i hi => absurd hi (by omega))
      | succ k ih =>
        rcases ih with ih | ⟨i, hi, h1, h2⟩
        · by_cases hk : nN k = n
          · exact .inr ⟨k, by omega, hk, ih⟩
          · refine .inl (fun i hi => ?_)
            rcases Nat.lt_or_ge i k with h | h
            · exact ih i h
            · rw [show i = k by omega]; exact hk
        · exact .inr ⟨i, by omega, h1, h2⟩
    rcases key 20 with hk | hk
    · obtain ⟨i, hi, hn⟩ := hex
      exact absurd hn (hk i hi)
    · exact hk
set_option maxHeartbeats 2000000 in
set_option maxRecDepth 100000 in
theorem named_any (n op h : Int) (s : ByteArray) (hn : I64 n) (ho : I64 op) (hh : I64 h) (w : World) (hg : LaidAt w) :
    Calls Tryd.prog 18 #[.int .i64 n, .int .i64 op, .int .i64 h, .string s] w fun r w' => r = .returned (.bool true) ∧ Below w.heap.size w w' := by
  have G := Lib.hid (fun W (hW : Below w.heap.size w W) => hg.below hW)
  have F1 := Lib.hid (find_any s)
  have F2 := Lib.hid (rfind16 s)
  have F3 := Lib.hid (name_any n)
  have F4 := Lib.hid (rname16 n)
  have F5 := Lib.hid (fun W (hW : Below w.heap.size w W) => opname op ho W (hg.below hW))
  have F6 := Lib.hid (ropname op ho)
  have F7 := Lib.hid (fun W (hW : Below w.heap.size w W) => told_h h hh W (hg.below hW))
  have F8 := Lib.hid (rtold h hh)
  have F9 := Lib.hid (fun W (hW : Below w.heap.size w W) => works_any W (hg.below hW))
  clear hg hn ho hh
  generalize (findN s.toList).getD 0 = q at *
  generalize (findN s.toList).isSome = b at *
  have hbb : (b == b) = true := by cases b <;> rfl
  have hqq : (q == q) = true := beq_self_eq_true q
  generalize nameL n = A at *
  generalize opL op = B at *
  generalize toldL h = C at *
  have hAA : (A == A) = true := beq_self_eq_true A
  have hBB : (B == B) = true := beq_self_eq_true B
  have hCC : (C == C) = true := beq_self_eq_true C
  go_enter Tryd.func18, Tryd.ntmps18
  go_wp2_with fail
  refine (F1.out _).mono ?_
  rintro r w1 ⟨rfl, k1⟩
  have K1 := Lib.hid k1
  clear k1
  go_wp2_with fail
  refine (F2.out _).mono ?_
  rintro r w2 ⟨rfl, k2⟩
  have K2 := Lib.hid (bnext K1.out k2)
  clear k2
  go_wp2_with fail
  refine (F3.out _).mono ?_
  rintro r w3 ⟨rfl, k3⟩
  have K3 := Lib.hid (bnext K2.out k3)
  clear k3
  go_wp2_with fail
  refine (F4.out _).mono ?_
  rintro r w4 ⟨rfl, k4⟩
  have K4 := Lib.hid (bnext K3.out k4)
  clear k4
  go_wp2_with fail
  refine (F5.out _ K4.out).mono ?_
  rintro r w5 ⟨rfl, k5⟩
  have K5 := Lib.hid (bnext K4.out k5)
  clear k5
  go_wp2_with fail
  refine (F6.out _).mono ?_
  rintro r w6 ⟨rfl, k6⟩
  have K6 := Lib.hid (bnext K5.out k6)
  clear k6
  go_wp2_with fail
  refine (F7.out _ K6.out).mono ?_
  rintro r w7 ⟨rfl, k7⟩
  have K7 := Lib.hid (bnext K6.out k7)
  clear k7
  go_wp2_with fail
  refine (F8.out _).mono ?_
  rintro r w8 ⟨rfl, k8⟩
  have K8 := Lib.hid (bnext K7.out k8)
  clear k8
  go_wp2_with fail
  refine (F9.out _ K8.out).mono ?_
  rintro r w9 ⟨rfl, k9⟩
  have K9 := Lib.hid (bnext K8.out k9)
  clear k9
  go_wp2_with fail
  go_ret
  exact ⟨rfl, K9.out⟩
set_option maxHeartbeats 2000000 in
set_option maxRecDepth 100000 in
theorem words_law (n op h : Int) (s : ByteArray) (w : World) (hg : LaidAt w) (hn : I64 n) (ho : I64 op) (hh : I64 h) :
    Calls Tryd.prog 4 #[.agg #[.int .i64 n, .int .i64 op, .int .i64 h, .string s]] w fun r w' => r = .returned (.bool true) ∧ Below w.heap.size w w' := by
  obtain ⟨WB, hWB⟩ : ∃ WB, WB = w.alloc (.cells #[.int .i64 n, .int .i64 op, .int .i64 h, .string s] 42) := ⟨_, rfl⟩
  have hb : Below w.heap.size w WB := by rw [hWB]; exact (by repeat (first | exact Below.refl _ _ | (with_reducible assumption) | refine Below.drew ?_ | (refine Below.alloc ?_ (by first | exact Nat.le_refl _ | omega | (simp; done) | (simp; omega)) _) | (refine Below.setCell ?_ (by first | omega | (simp; done) | (simp; omega)) _)))
  have x0 : WB.cell? ⟨w.heap.size, 0, none⟩ = some (.int .i64 n) := by rw [hWB]; simp
  have x1 : WB.cell? ⟨w.heap.size, 1, none⟩ = some (.int .i64 op) := by rw [hWB]; simp
  have x2 : WB.cell? ⟨w.heap.size, 2, none⟩ = some (.int .i64 h) := by rw [hWB]; simp
  have x3 : WB.cell? ⟨w.heap.size, 3, none⟩ = some (.string s) := by rw [hWB]; simp
  have HX := Lib.hid (fun W (hW : Below WB.heap.size WB W) => (⟨(hW.cell (cell_blk x0)).trans x0, (hW.cell (cell_blk x1)).trans x1, (hW.cell (cell_blk x2)).trans x2, (hW.cell (cell_blk x3)).trans x3⟩ : W.cell? ⟨w.heap.size, 0, none⟩ = some (.int .i64 n) ∧ W.cell? ⟨w.heap.size, 1, none⟩ = some (.int .i64 op) ∧ W.cell? ⟨w.heap.size, 2, none⟩ = some (.int .i64 h) ∧ W.cell? ⟨w.heap.size, 3, none⟩ = some (.string s)))
  have HN := Lib.hid (fun W (hW : Below WB.heap.size WB W) => (named_any n op h s hn ho hh W (hg.below (bnext hb hW))).mono (R' := fun r w' => r = .returned (.bool true) ∧ Below W.heap.size W w') (fun _ _ h => h))
  have FN := Lib.hid (name_any n WB)
  have HF := Lib.hid (fun (e : nameL n ≠ []) W => (find_any ⟨(nameL n).toArray⟩ W).mono (R' := fun r w' => r = .returned (.tuple #[.int .i64 n, .bool true]) ∧ Below W.heap.size W w') (by
    rintro r w' ⟨rfl, h2⟩
    refine ⟨?_, h2⟩
    rw [show (⟨(nameL n).toArray⟩ : ByteArray).toList = nameL n by simp, find_name n e]
    rfl))
  have HB := Lib.hid hb
  have HW := Lib.hid hWB
  clear hg hn ho hh hb hWB
  generalize nameL n = A at *
  have hnn : (n != n) = false := by simp
  go_enter Tryd.func4, Tryd.ntmps4
  go_wp2_with fail
  rw [← HW.out]
  refine FN.out.mono ?_
  rintro r w1 ⟨rfl, k1⟩
  have K1 := Lib.hid k1
  clear k1 x0 x1 x2 x3
  obtain ⟨x0, x1, x2, x3⟩ := HX.out w1 K1.out
  cases A with
  | nil =>
    go_wp2_with fail
    refine (HN.out _ K1.out).mono ?_
    rintro r w2 ⟨rfl, k2⟩
    go_wp2_with fail
    go_ret
    exact ⟨rfl, bnext HB.out (bnext K1.out k2)⟩
  | cons a A =>
    have HFF := Lib.hid (HF.out (by simp))
    go_wp2_with fail
    refine (HFF.out _).mono ?_
    rintro r w2 ⟨rfl, k2⟩
    have K2 := Lib.hid (bnext K1.out k2)
    clear k2 x0 x1 x2 x3
    obtain ⟨x0, x1, x2, x3⟩ := HX.out w2 K2.out
    go_wp2_with fail
    refine (HN.out _ K2.out).mono ?_
    rintro r w3 ⟨rfl, k3⟩
    go_wp2_with fail
    go_ret
    exact ⟨rfl, bnext HB.out (bnext K2.out k3)⟩
end Go.Proofs.YtlnamkplbikcjaaDoor
