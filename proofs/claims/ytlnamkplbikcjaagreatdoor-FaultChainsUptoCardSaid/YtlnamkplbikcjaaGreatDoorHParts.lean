/- The program's package handle and the document's own: what may be, its parts, Make, Next, for every input; no condition but those that each row names. -/
import Derived.Test.YtlnamkplbikcjaaGreatDoorProg
import Derived.Test.YtlnamkplbikcjaaGreatDoorHMath
import Derived.WalkKit
import Derived.WalkSpells
import Derived.WalkLawsBesides
import Derived.Lib.Hide
namespace Go.Proofs.YtlnamkplbikcjaaGreatDoor
open Go.RowKit

/-- What lay below reads as it did. -/
theorem bcell {W w1 : World} (hb : Below W.heap.size W w1) : (∀ b o, b < W.heap.size → w1.cell? ⟨b, o, none⟩ = W.cell? ⟨b, o, none⟩) ∧ (∀ b o, b < W.heap.size → w1.frozen? ⟨b, o, none⟩ = W.frozen? ⟨b, o, none⟩) :=
  ⟨fun b o h => hb.cell (p := ⟨b, o, none⟩) h, fun b o h => hb.frozen (p := ⟨b, o, none⟩) h⟩

theorem bnext {w a b : World} (h : Below w.heap.size w a) (k : Below a.heap.size a b) : Below w.heap.size w b := h.trans (k.mono h.size)

theorem ret_bool {a b : Bool} (h : a = b) : Ending.returned (.bool a) = .returned (.bool b) := by rw [h]
theorem ret_int {a b : Int} (h : a = b) : Ending.returned (.int .i64 a) = .returned (.int .i64 b) := by rw [h]
theorem ret_parts {a b c x y z : Int} (h1 : a = x) (h2 : b = y) (h3 : c = z) : Ending.returned (.tuple #[.int .i64 a, .int .i64 b, .int .i64 c]) = .returned (.tuple #[.int .i64 x, .int .i64 y, .int .i64 z]) := by rw [h1, h2, h3]
theorem ret_handle {a x : Int} {v : Value} (h1 : a = x) : Ending.returned (.tuple #[.int .i64 a, v]) = .returned (.tuple #[.int .i64 x, v]) := by rw [h1]

theorem maybe_ok (k s g : Int) (w : World) (h : okP k s g) :
    Calls Tryz.prog 74 #[.int .i64 k, .int .i64 s, .int .i64 g] w fun e w' => e = .returned (.bool true) ∧ w = w' := by
  obtain ⟨h1, h2, h3, h4, h5, h6⟩ := h
  go_enter Tryz.func74, Tryz.ntmps74
  go_wp2
  go_ret
  exact ⟨rfl, rfl⟩

theorem maybe_no (k s g : Int) (w : World) (h : ¬ okP k s g) :
    Calls Tryz.prog 74 #[.int .i64 k, .int .i64 s, .int .i64 g] w fun e w' => e = .returned (.bool false) ∧ w = w' := by
  by_cases h1 : 1 ≤ k
  · by_cases h2 : k ≤ 3
    · by_cases h3 : 0 ≤ s
      · by_cases h4 : s ≤ 65535
        · by_cases h5 : 1 ≤ g
          · have h6 : 1023 < g := by unfold okP at h; omega
            clear h
            go_enter Tryz.func74, Tryz.ntmps74
            go_wp2
            go_ret
            exact ⟨ret_bool (decide_eq_false (by omega)), rfl⟩
          · have h6 : g < 1 := by omega
            clear h h5
            go_enter Tryz.func74, Tryz.ntmps74
            go_wp2
            go_ret
            exact ⟨rfl, rfl⟩
        · have h6 : 65535 < s := by omega
          clear h h4
          go_enter Tryz.func74, Tryz.ntmps74
          go_wp2
          go_ret
          exact ⟨rfl, rfl⟩
      · have h6 : s < 0 := by omega
        clear h h3
        go_enter Tryz.func74, Tryz.ntmps74
        go_wp2
        go_ret
        exact ⟨rfl, rfl⟩
    · have h6 : 3 < k := by omega
      clear h h2
      go_enter Tryz.func74, Tryz.ntmps74
      go_wp2
      go_ret
      exact ⟨rfl, rfl⟩
  · have h6 : k < 1 := by omega
    clear h h1
    go_enter Tryz.func74, Tryz.ntmps74
    go_wp2
    go_ret
    exact ⟨rfl, rfl⟩

theorem split_any (h : Int) (w : World) :
    Calls Tryz.prog 73 #[.int .i64 h] w fun e w' => e = .returned (.tuple #[.int .i64 (kOf h), .int .i64 (sOf h), .int .i64 (gOf h)]) ∧ w = w' := by
  go_enter Tryz.func73, Tryz.ntmps73
  go_wp2
  go_ret3
  exact ⟨ret_parts rfl (i64_mask _) (i64_mask _), rfl⟩

theorem rmake_ok (k s g : Int) (w : World) (h : okP k s g) :
    Calls Tryz.prog 79 #[.int .i64 k, .int .i64 s, .int .i64 g] w fun e w' => e = .returned (.tuple #[.int .i64 (mkH k s g), .int .i64 0]) ∧ w = w' := by
  obtain ⟨h1, h2, h3, h4, h5, h6⟩ := h
  go_enter Tryz.func79, Tryz.ntmps79
  go_wp2
  go_ret2
  exact ⟨rfl, rfl⟩

theorem rmake_no (k s g : Int) (w : World) (h : ¬ okP k s g) :
    Calls Tryz.prog 79 #[.int .i64 k, .int .i64 s, .int .i64 g] w fun e w' => e = .returned (.tuple #[.int .i64 0, .int .i64 1]) ∧ w = w' := by
  by_cases h1 : k < 1
  · clear h
    go_enter Tryz.func79, Tryz.ntmps79
    go_wp2
    go_ret2
    exact ⟨rfl, rfl⟩
  by_cases h2 : 3 < k
  · clear h
    go_enter Tryz.func79, Tryz.ntmps79
    go_wp2
    go_ret2
    exact ⟨rfl, rfl⟩
  by_cases h3 : s < 0
  · clear h
    go_enter Tryz.func79, Tryz.ntmps79
    go_wp2
    go_ret2
    exact ⟨rfl, rfl⟩
  by_cases h4 : 65535 < s
  · clear h
    go_enter Tryz.func79, Tryz.ntmps79
    go_wp2
    go_ret2
    exact ⟨rfl, rfl⟩
  by_cases h5 : g < 1
  · clear h
    go_enter Tryz.func79, Tryz.ntmps79
    go_wp2
    go_ret2
    exact ⟨rfl, rfl⟩
  have h6 : 1023 < g := by unfold okP at h; omega
  clear h
  go_enter Tryz.func79, Tryz.ntmps79
  go_wp2
  go_ret2
  exact ⟨rfl, rfl⟩

theorem rparts_ok (h : Int) (w : World) (k : okH h) :
    Calls Tryz.prog 69 #[.int .i64 h] w fun e w' => e = .returned (.tuple #[.int .i64 (kOf h), .int .i64 (sOf h), .int .i64 (gOf h)]) ∧ w = w' := by
  obtain ⟨b1, b2⟩ := okH_bd k
  have e1 : bits .and .i64 (h / 1048576) 1048575 = sOf h := i64_mask _
  have e2 : bits .and .i64 h 1048575 = gOf h := i64_mask _
  go_enter Tryz.func69, Tryz.ntmps69
  go_wp2_with fail
  refine (rmake_ok (kOf h) _ _ _ k).mono ?_
  rintro e w1 ⟨rfl, rfl⟩
  go_wp2_with fail
  go_ret3
  exact ⟨rfl, rfl⟩

theorem rparts_no (h : Int) (w : World) (k : ¬ okH h) :
    Calls Tryz.prog 69 #[.int .i64 h] w fun e w' => e = .returned (.tuple #[.int .i64 0, .int .i64 (-1), .int .i64 0]) ∧ w = w' := by
  by_cases hn : h < 0
  · go_enter Tryz.func69, Tryz.ntmps69
    go_wp2_with fail
    go_ret3
    exact ⟨rfl, rfl⟩
  · have e1 : bits .and .i64 (h / 1048576) 1048575 = sOf h := i64_mask _
    have e2 : bits .and .i64 h 1048575 = gOf h := i64_mask _
    go_enter Tryz.func69, Tryz.ntmps69
    go_wp2_with fail
    refine (rmake_no (kOf h) _ _ _ k).mono ?_
    rintro e w1 ⟨rfl, rfl⟩
    go_wp2_with fail
    go_ret3
    exact ⟨rfl, rfl⟩

end Go.Proofs.YtlnamkplbikcjaaGreatDoor
