/- The walk of the law FixedReads: it answers true for every text; it writes nothing that was there; of the listed variable its one cell is asked. -/
import Derived.Test.YtlhgopdlpjmbhaaDoorMosts
import Derived.Test.YtlhgopdlpjmbhaaDoorRead
import Derived.Test.YtlhgopdlpjmbhaaDoorRReadAll
namespace Go.Proofs.YtlhgopdlpjmbhaaDoor
open Go.RowKit

set_option maxHeartbeats 1000000 in
set_option maxRecDepth 100000 in
theorem reads_of (s : ByteArray) (m n : Int) (x : Value) (w : World) (hg : LaidAt w) (hx : ErrV x n)
    (HM : ∀ w, Calls Tryd.prog 25 #[.string s] w fun e w' => e = .returned (.tuple #[.int .i64 m, x]) ∧ Below w.heap.size w w')
    (HR : ∀ w, Calls Tryd.prog 26 #[.string s] w fun e w' => e = .returned (.tuple #[.int .i64 m, .int .i64 n]) ∧ Below w.heap.size w w') :
    Calls Tryd.prog 8 #[.string s] w fun e w' => e = .returned (.bool true) ∧ Below w.heap.size w w' := by
  have JM := Lib.hid HM
  have JR := Lib.hid HR
  have JG := Lib.hid hg
  have JX := Lib.hid hx
  clear HM HR hg hx
  go_enter Tryd.func8, Tryd.ntmps8
  go_wp2_with fail
  refine (JM.out _).mono ?_
  rintro e w1 ⟨rfl, hb1⟩
  go_wp2_with fail
  refine (JR.out _).mono ?_
  rintro e w2 ⟨rfl, hb2⟩
  go_wp2_with fail
  refine (num_any x n JX.out _ (JG.out.below (bnext hb1 hb2))).mono ?_
  rintro e w3 ⟨rfl, hb3⟩
  go_wp2_with fail
  refine (sure_any _).mono ?_
  rintro e w4 ⟨rfl, hb4⟩
  go_wp2_with fail
  go_ret
  exact ⟨rfl, bnext (bnext (bnext hb1 hb2) hb3) hb4⟩

theorem reads_any (s : ByteArray) (w : World) (hg : LaidAt w) (hs : s.size ≤ 9223372036854775807) :
    Calls Tryd.prog 8 #[.string s] w fun e w' => e = .returned (.bool true) ∧ Below w.heap.size w w' := by
  by_cases h : ∃ u, u ≤ 1048576 ∧ s.toList = decL u
  · obtain ⟨u, hu, he⟩ := h
    have e : resV (rreadV s.toList) = .returned (.tuple #[.int .i64 (u : Int), .int .i64 0]) := by rw [he, rreadV_dec u hu]; rfl
    refine reads_of s u 0 .nilIface w hg (.inl ⟨rfl, rfl⟩) (fun w => read_ok s u w hu he) (fun w => ?_)
    rw [← e]
    exact rread_any s w hs
  · have hno : ∀ u, u ≤ 1048576 → s.toList ≠ decL u := fun u hu he => h ⟨u, hu, he⟩
    have e : resV (rreadV s.toList) = .returned (.tuple #[.int .i64 0, .int .i64 4]) := by rw [rreadV_no _ hno]; rfl
    refine reads_of s 0 4 _ w hg (.inr rfl) (fun w => read_no s w hno) (fun w => ?_)
    rw [← e]
    exact rread_any s w hs
end Go.Proofs.YtlhgopdlpjmbhaaDoor
