/- The library's slices.Repeat of a slice of the one number 1, from 1 to 4,096 times; no condition but those. -/
import Derived.Test.YtlcdbblbepndoaaDoorSHand
import Derived.Test.YtlcdbblbepndoaaDoorSKeep
import Derived.Laws.CopyOwn
import Derived.IntWalk
import Derived.Deep.OwnRows
import Derived.Deep.RegionHeld3
import Derived.Deep.LoopGhost
namespace Go.Proofs.YtlcdbblbepndoaaDoor
open Go.RowKit

theorem Tryd.size3 : (Tryd.prog.info? 3).map (·.size) = some 1 := by kernel_rfl
theorem Tryd.size4 : (Tryd.prog.info? 4).map (·.size) = some 1 := by kernel_rfl
theorem u64_small (n : Int) (h0 : 0 ≤ n) (h1 : n ≤ 4096) : IntKind.u64.wrap n = n := by rw [IntKind.wrap_u64]; omega
/-- k ones, then noughts. -/
def fillN (n k : Nat) : List Value := List.replicate k (.int .i64 1) ++ List.replicate (n - k) (.int .i64 0)
def onesN (m : Nat) : List Value := List.replicate m (.int .i64 1)
theorem ones_len (m : Nat) : (onesN m).length = m := by simp [onesN]
theorem ones_one (m : Nat) : ∀ u ∈ onesN m, u.oneCell' = true := by
  intro u hu; unfold onesN at hu; rw [List.eq_of_mem_replicate hu]; rfl
theorem fill_len {n k : Nat} (h : k ≤ n) : (fillN n k).length = n := by simp [fillN]; omega
theorem fill_splice {n k m : Nat} (h : k + m ≤ n) : splice (fillN n k) k (onesN m) = fillN n (k + m) := by
  unfold splice fillN onesN
  rw [List.take_left' (by simp), List.length_replicate, List.drop_append, List.drop_eq_nil_of_le (by simp), List.nil_append, List.length_replicate, List.drop_replicate]
  rw [← List.append_assoc, List.replicate_append_replicate]
  congr 2
  omega
theorem fill_start (n : Nat) : splice (List.replicate n (Value.int .i64 0)) 0 [.int .i64 1] = fillN n 1 := by
  unfold splice fillN
  simp
theorem fill_src {W : World} {H n k : Nat} {t : TypeId} (hW : W.heap[H]? = some (.cells (fillN n k).toArray t (0, 0))) (m : Nat) (hm : m ≤ k) : ∀ j v, (onesN m)[j]? = some v → W.cell? ((⟨H, 0, none⟩ : Addr).add j) = some v := by
  intro j v hj
  have hlt : j < m := by
    rcases Nat.lt_or_ge j m with h | h
    · exact h
    · rw [List.getElem?_eq_none (by rw [ones_len]; exact h)] at hj; cases hj
  have hv : v = .int .i64 1 := by
    unfold onesN at hj
    rw [List.getElem?_replicate, if_pos hlt] at hj
    exact (Option.some.inj hj).symm
  rw [addr_add, hv, cell_of_row W H _ _ t (0, 0) hW]
  simp [fillN, List.getElem?_append, Nat.lt_of_lt_of_le hlt hm]

set_option maxHeartbeats 2000000 in
set_option maxRecDepth 100000 in
theorem repeat_ones (w : World) (g c : Nat) (hg : w.cell? ⟨g, 0, none⟩ = some (.int .i64 1)) (n : Nat) (h1 : 1 ≤ n) (h2 : n ≤ 4096) :
    Calls Tryd.prog 42 #[.slice (some ⟨g, 0, none⟩) 1 c, .int .i64 n] w fun e w' => ∃ r, e = .returned (.slice (some ⟨r, 0, none⟩) n n) ∧ w'.ownsRow w.heap.size 3 1 (.slice (some ⟨r, 0, none⟩) n n) n (ints (List.replicate n 1)) ∧ Below w.heap.size w w' := by
  have hmk := fun w => run_make_row' (P := Tryd.prog) 25 3 (.int .i64 0) 8 Tryd.underlying25 Tryd.info3 rfl .i64 .i64 n (by omega) (by omega) w
  have hu := u64_small n (by omega) (by omega)
  have HM := Lib.hid (fun w => mul_one n w (by omega) (by omega))
  have z0 : (0 : Int) ≤ (n : Int) := by omega
  go_enter Tryd.func42, Tryd.ntmps42
  go_wp2_with fail

  refine (HM.out _).mono ?_
  rintro e w1 ⟨rfl, rfl⟩
  go_wp2_with (with_reducible refine wpList_copy_splice rfl (.tmp 31) (.tmp 32) 25 25 rfl 3 Tryd.underlying25 Tryd.size3 _ _ n n 1 c rfl rfl w.heap.size 0 (List.replicate n (.int .i64 0)) 3 ?c1 [.int .i64 1] ?c2 ?c3 ?c4 ?c5 w.heap.size w ?c6 (Nat.le_refl _) ?_)
  case c1 => rw [heap_alloc_new, ← toList_madeCells_one]
  case c2 => simp [Nat.min_eq_left h1]
  case c3 =>
    intro j v hj
    match j, hj with
    | 0, hj =>
      simp at hj
      subst hj
      exact (World.cell?_alloc_lt _ _ ⟨g, 0, none⟩ (cell_lt hg)).trans hg
  case c4 => simp; omega
  case c5 => intro u hu; simp at hu; subst hu; rfl
  case c6 => exact (Below.refl _ _).alloc (Nat.le_refl _) _
  intro w1 hw1 hb1
  go_wp2_with fail
  go_loopw [8] (fun i wr => ∃ k : Nat, 1 ≤ k ∧ k ≤ n ∧ i = .int .i64 k ∧ Hid (wr.heap[w.heap.size]? = some (.cells (fillN n k).toArray 3 (0, 0))) ∧ Below w.heap.size w wr) (fun i _ => n - (intOf i).toNat)
  case atStart => exact ⟨1, Nat.le_refl _, h1, rfl, Lib.hid (by rw [← fill_start]; exact hw1.out), hb1⟩
  case round =>
    obtain ⟨k, hk1, hk, rfl, HB, hb⟩ := hrel
    by_cases hlt : k < n
    · have k0 : (0 : Int) ≤ (k : Int) := by omega
      have k1 : (k : Int) ≤ (n : Int) := by omega
      have hne : ¬ n = k := by omega
      have HL := Lib.hid (show (onesN (Nat.min k (n - k))).length = Nat.min k (n - k) from ones_len _)
      have HF := Lib.hid (show k + (onesN (Nat.min k (n - k))).length ≤ (fillN n k).length by rw [fill_len hk, ones_len]; have : Nat.min k (n - k) ≤ n - k := Nat.min_le_right _ _; omega)
      have hmin : k + Nat.min k (n - k) ≤ n := by have : Nat.min k (n - k) ≤ n - k := Nat.min_le_right _ _; omega
      have hmin2 : 1 ≤ Nat.min k (n - k) := Nat.le_min.2 ⟨by omega, by omega⟩
      have HS := Lib.hid (fun (W : World) h => fill_src (W := W) (H := w.heap.size) (n := n) (k := k) (t := 3) h (Nat.min k (n - k)) (Nat.min_le_left _ _))
      have HP := Lib.hid (fill_splice hmin)
      go_wp2_with fail
      go_region_held3 (fun _ => True) (trivial) ((refine step_copy_splice (by rfl) (.tmp 41) (.tmp 44) 25 25 (by rfl) 3 Tryd.underlying25 Tryd.size3 _ _ _ _ _ _ (by rfl) (by rfl) w.heap.size k (fillN n k) 3 HB.out (onesN (Nat.min k (n - k))) HL.out (fun _ => ⟨rfl, _, rfl, HS.out _ HB.out⟩) HF.out (ones_one _) w.heap.size w (hb.trans ⟨rfl, rfl, rfl, Nat.le_refl _, fun _ _ => rfl⟩) (Nat.le_refl _) ?_; intro w4 hg4 hb4))
      go_wp2_with fail
      have hsum : Value.int .i64 (IntKind.i64.wrap ((k : Int) + ((onesN (Nat.min k (n - k))).length : Int))) = .int .i64 ((k + Nat.min k (n - k) : Nat) : Int) := by
        rw [HL.out, IntWalk.i64_in _ (by omega)]
        rfl
      have hblk : Hid (w4.heap[w.heap.size]? = some (.cells (fillN n (k + Nat.min k (n - k))).toArray 3 (0, 0))) := Lib.hid (by rw [← HP.out]; exact hg4.out)
      go_roundw
      case rel => exact ⟨k + Nat.min k (n - k), by omega, hmin, hsum, hblk, hb4⟩
      case measure => rw [hsum]; simp [intOf]; omega
    · have hkn : k = n := by omega
      have HE := Lib.hid (show fillN n k = ints (List.replicate n 1) by rw [hkn]; simp [fillN, ints])
      clear hkn
      go_wp2_with fail
      go_ret
      refine ⟨w.heap.size, rfl, ⟨by simp [ints_len], .inr ⟨w.heap.size, n, (ints (List.replicate n 1)).toArray, rfl, Nat.le_refl _, by rw [← HE.out]; exact HB.out, Nat.le_refl _, by unfold maxLen; omega, by simp [ints_len], ?_⟩⟩, hb⟩
      rw [List.toList_toArray, List.take_of_length_le (by simp [ints_len])]
end Go.Proofs.YtlcdbblbepndoaaDoor
