/- The walk of the law FixedTexts: it answers true for every number; it writes nothing that was there; of the listed variable its one cell is asked. -/
import Derived.Test.YtlhgopdlpjmbhaaDoorMosts
import Derived.Test.YtlhgopdlpjmbhaaDoorRText
import Derived.Test.YtlhgopdlpjmbhaaDoorRead
namespace Go.Proofs.YtlhgopdlpjmbhaaDoor
open Go.RowKit

theorem toList_mk (l : List UInt8) : (⟨l.toArray⟩ : ByteArray).toList = l := by rw [ByteArray.toList_eq]

set_option maxHeartbeats 1000000 in
set_option maxRecDepth 100000 in
theorem texts_ok (u : Nat) (w : World) (hu : u ≤ 1048576) (hg : LaidAt w) :
    Calls Tryd.prog 7 #[.int .i64 u] w fun e w' => e = .returned (.bool true) ∧ Below w.heap.size w w' := by
  have JG := Lib.hid hg
  clear hg
  go_enter Tryd.func7, Tryd.ntmps7
  go_wp2_with fail
  refine (text_ok u _ hu).mono ?_
  rintro e w1 ⟨rfl, hb1⟩
  go_wp2_with fail
  refine (rtext_ok u _ hu).mono ?_
  rintro e w' ⟨rfl, rfl⟩
  go_wp2_with fail
  refine (num_nil _).mono ?_
  rintro e w2 ⟨rfl, hb2⟩
  go_wp2_with fail
  refine (read_ok _ u _ hu (toList_mk _)).mono ?_
  rintro e w3 ⟨rfl, hb3⟩
  go_wp2_with fail
  refine (sure_any _).mono ?_
  rintro e w4 ⟨rfl, hb4⟩
  go_wp2_with fail
  go_ret
  exact ⟨rfl, bnext (bnext (bnext hb1 hb2) hb3) hb4⟩

set_option maxHeartbeats 1000000 in
set_option maxRecDepth 100000 in
theorem texts_no (n : Int) (w : World) (h : ¬ (0 ≤ n ∧ n ≤ 1048576)) (hg : LaidAt w) :
    Calls Tryd.prog 7 #[.int .i64 n] w fun e w' => e = .returned (.bool true) ∧ Below w.heap.size w w' := by
  have JG := Lib.hid hg
  have JH := Lib.hid h
  clear hg h
  go_enter Tryd.func7, Tryd.ntmps7
  go_wp2_with fail
  refine (text_no n _ JH.out).mono ?_
  rintro e w1 ⟨rfl, hb1⟩
  go_wp2_with fail
  refine (rtext_no n _ JH.out).mono ?_
  rintro e w' ⟨rfl, rfl⟩
  go_wp2_with fail
  refine (num_errno 1 _ (JG.out.below hb1)).mono ?_
  rintro e w2 ⟨rfl, hb2⟩
  go_wp2_with fail
  refine (read_no ⟨#[]⟩ _ (fun u _ => by rw [toList_mk]; unfold decL; simp)).mono ?_
  rintro e w3 ⟨rfl, hb3⟩
  go_wp2_with fail
  refine (sure_any _).mono ?_
  rintro e w4 ⟨rfl, hb4⟩
  go_wp2_with fail
  go_ret
  exact ⟨rfl, bnext (bnext (bnext hb1 hb2) hb3) hb4⟩

theorem texts_any (n : Int) (w : World) (hg : LaidAt w) :
    Calls Tryd.prog 7 #[.int .i64 n] w fun e w' => e = .returned (.bool true) ∧ Below w.heap.size w w' := by
  by_cases h : 0 ≤ n ∧ n ≤ 1048576
  · have e : n = ((n.toNat : Nat) : Int) := by omega
    rw [e]
    exact texts_ok n.toNat w (by omega) hg
  · exact texts_no n w h hg
end Go.Proofs.YtlhgopdlpjmbhaaDoor
