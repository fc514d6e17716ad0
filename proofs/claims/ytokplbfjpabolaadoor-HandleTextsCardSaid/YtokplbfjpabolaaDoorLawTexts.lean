/- The walk of the law HandleTexts: it answers true for every number and every text; it writes nothing that was there. -/
import Derived.Test.YtokplbfjpabolaaDoorHWorks
import Derived.Test.YtokplbfjpabolaaDoorHDigits
import Derived.Test.YtokplbfjpabolaaDoorHReadRef
namespace Go.Proofs.YtokplbfjpabolaaDoor
open Go.RowKit

set_option maxHeartbeats 1000000 in
set_option maxRecDepth 100000 in
theorem texts_of (h : Int) (s : ByteArray) (m n : Int) (x : Value) (w : World) (hg : LaidAt w) (hx : ErrV x n)
    (HM : ∀ w, LaidAt w → Calls Tryd.prog 23 #[.string s] w fun e w' => e = .returned (.tuple #[.int .i64 m, x]) ∧ Below w.heap.size w w')
    (HR : ∀ w, Calls Tryd.prog 24 #[.string s] w fun e w' => e = .returned (.tuple #[.int .i64 m, .int .i64 n]) ∧ Below w.heap.size w w') :
    Calls Tryd.prog 5 #[.int .i64 h, .string s] w fun e w' => e = .returned (.bool true) ∧ Below w.heap.size w w' := by
  have JM := Lib.hid HM
  have JR := Lib.hid HR
  have JG := Lib.hid hg
  have JX := Lib.hid (num_any x n hx)
  have JT := Lib.hid (text_any h)
  have JU := Lib.hid (rtext_any h)
  clear HM HR hg hx
  generalize textL h = l at *
  go_enter Tryd.func5, Tryd.ntmps5
  go_wp2_with fail
  refine (JM.out _ JG.out).mono ?_
  rintro e w1 ⟨rfl, hb1⟩
  go_wp2_with fail
  refine (JR.out _).mono ?_
  rintro e w2 ⟨rfl, hb2⟩
  have hB2 := bnext hb1 hb2
  go_wp2_with fail
  refine (JT.out _ (JG.out.below hB2)).mono ?_
  rintro e w3 ⟨rfl, hb3⟩
  have hB3 := bnext hB2 hb3
  go_wp2_with fail
  refine (JU.out _).mono ?_
  rintro e w4 ⟨rfl, hb4⟩
  have hB4 := bnext hB3 hb4
  go_wp2_with fail
  refine (JX.out _).mono ?_
  rintro e w5 ⟨rfl, rfl⟩
  go_wp2_with fail
  refine (works_any _ (JG.out.below hB4)).mono ?_
  rintro e w5 ⟨rfl, hb5⟩
  go_wp2_with fail
  go_ret
  exact ⟨rfl, bnext hB4 hb5⟩

theorem texts_any (h : Int) (s : ByteArray) (w : World) (hg : LaidAt w) :
    Calls Tryd.prog 5 #[.int .i64 h, .string s] w fun e w' => e = .returned (.bool true) ∧ Below w.heap.size w w' := by
  by_cases h32 : 32 < s.size
  · exact texts_of h s 0 3 _ w hg (.inr rfl) (fun w _ => read_long s h32 w) (fun w => rread_long s h32 w)
  · have hl : s.data.toList.length = s.size := Array.length_toList
    have hR := rread_any s (by omega)
    by_cases hk : ∃ k, (k = 0 ∨ okH k) ∧ s.data.toList = textL k
    · obtain ⟨k, hk, he⟩ := hk
      have e : rreadV s.data.toList = (k, 0) := by rw [he]; exact rread_text hk
      rw [e] at hR
      exact texts_of h s k 0 _ w hg (.inl ⟨rfl, rfl⟩) (fun w hg => read_is s k hk he w hg) hR
    · have hno : ∀ n, (n = 0 ∨ okH n) → s.data.toList ≠ textL n := fun n hn e => hk ⟨n, hn, e⟩
      have e : rreadV s.data.toList = (0, 4) := rread_no (by omega) hno
      rw [e] at hR
      exact texts_of h s 0 4 _ w hg (.inr rfl) (fun w hg => read_no s (by omega) hno w hg) hR
end Go.Proofs.YtokplbfjpabolaaDoor
