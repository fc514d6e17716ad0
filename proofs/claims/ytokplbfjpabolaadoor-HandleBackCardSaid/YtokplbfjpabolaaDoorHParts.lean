/- The program's package handle and the document's own: what may be, its parts, Make, Next, for every input; no condition but those that each row names. -/
import Derived.Test.YtokplbfjpabolaaDoorProg
import Derived.Test.YtokplbfjpabolaaDoorHMath
import Derived.WalkKit
import Derived.WalkSpells
import Derived.WalkLawsBesides
import Derived.Lib.Hide
namespace Go.Proofs.YtokplbfjpabolaaDoor
open Go.RowKit

/-- What lay below reads as it did. -/
theorem bcell {W w1 : World} (hb : Below W.heap.size W w1) : (∀ b o, b < W.heap.size → w1.cell? ⟨b, o, none⟩ = W.cell? ⟨b, o, none⟩) ∧ (∀ b o, b < W.heap.size → w1.frozen? ⟨b, o, none⟩ = W.frozen? ⟨b, o, none⟩) :=
  ⟨fun b o h => hb.cell (p := ⟨b, o, none⟩) h, fun b o h => hb.frozen (p := ⟨b, o, none⟩) h⟩

theorem bnext {w a b : World} (h : Below w.heap.size w a) (k : Below a.heap.size a b) : Below w.heap.size w b := h.trans (k.mono h.size)

theorem ret_bool {a b : Bool} (h : a = b) : Ending.returned (.bool a) = .returned (.bool b) := by rw [h]
theorem ret_int {a b : Int} (h : a = b) : Ending.returned (.int .i64 a) = .returned (.int .i64 b) := by rw [h]
theorem ret_parts {a b c x y z : Int} (h1 : a = x) (h2 : b = y) (h3 : c = z) : Ending.returned (.tuple #[.int .i64 a, .int .i64 b, .int .i64 c]) = .returned (.tuple #[.int .i64 x, .int .i64 y, .int .i64 z]) := by rw [h1, h2, h3]
theorem ret_handle {a x : Int} {v : Value} (h1 : a = x) : Ending.returned (.tuple #[.int .i64 a, v]) = .returned (.tuple #[.int .i64 x, v]) := by rw [h1]

theorem maybe_ok (k s g : Int) (w : World) (h : okP k s g) :
    Calls Tryd.prog 32 #[.int .i64 k, .int .i64 s, .int .i64 g] w fun e w' => e = .returned (.bool true) ∧ w = w' := by
  obtain ⟨h1, h2, h3, h4, h5, h6⟩ := h
  go_enter Tryd.func32, Tryd.ntmps32
  go_wp2
  go_ret
  exact ⟨rfl, rfl⟩

theorem maybe_no (k s g : Int) (w : World) (h : ¬ okP k s g) :
    Calls Tryd.prog 32 #[.int .i64 k, .int .i64 s, .int .i64 g] w fun e w' => e = .returned (.bool false) ∧ w = w' := by
  by_cases h1 : 1 ≤ k
  · by_cases h2 : k ≤ 3
    · by_cases h3 : 0 ≤ s
      · by_cases h4 : s ≤ 65535
        · by_cases h5 : 1 ≤ g
          · have h6 : 1023 < g := by unfold okP at h; omega
            clear h
            go_enter Tryd.func32, Tryd.ntmps32
            go_wp2
            go_ret
            exact ⟨ret_bool (decide_eq_false (by omega)), rfl⟩
          · have h6 : g < 1 := by omega
            clear h h5
            go_enter Tryd.func32, Tryd.ntmps32
            go_wp2
            go_ret
            exact ⟨rfl, rfl⟩
        · have h6 : 65535 < s := by omega
          clear h h4
          go_enter Tryd.func32, Tryd.ntmps32
          go_wp2
          go_ret
          exact ⟨rfl, rfl⟩
      · have h6 : s < 0 := by omega
        clear h h3
        go_enter Tryd.func32, Tryd.ntmps32
        go_wp2
        go_ret
        exact ⟨rfl, rfl⟩
    · have h6 : 3 < k := by omega
      clear h h2
      go_enter Tryd.func32, Tryd.ntmps32
      go_wp2
      go_ret
      exact ⟨rfl, rfl⟩
  · have h6 : k < 1 := by omega
    clear h h1
    go_enter Tryd.func32, Tryd.ntmps32
    go_wp2
    go_ret
    exact ⟨rfl, rfl⟩

theorem split_any (h : Int) (w : World) :
    Calls Tryd.prog 34 #[.int .i64 h] w fun e w' => e = .returned (.tuple #[.int .i64 (kOf h), .int .i64 (sOf h), .int .i64 (gOf h)]) ∧ w = w' := by
  go_enter Tryd.func34, Tryd.ntmps34
  go_wp2
  go_ret3
  exact ⟨ret_parts rfl (i64_mask _) (i64_mask _), rfl⟩

theorem valid_ok (h : Int) (w : World) (k : okH h) :
    Calls Tryd.prog 15 #[.int .i64 h] w fun e w' => e = .returned (.bool true) ∧ w = w' := by
  go_enter Tryd.func15, Tryd.ntmps15
  go_wp2_with fail
  refine (split_any _ _).mono ?_
  rintro e w1 ⟨rfl, rfl⟩
  go_wp2_with fail
  refine (maybe_ok _ _ _ _ k).mono ?_
  rintro e w1 ⟨rfl, rfl⟩
  go_wp2_with fail
  go_ret
  exact ⟨rfl, rfl⟩

theorem valid_no (h : Int) (w : World) (k : ¬ okH h) :
    Calls Tryd.prog 15 #[.int .i64 h] w fun e w' => e = .returned (.bool false) ∧ w = w' := by
  go_enter Tryd.func15, Tryd.ntmps15
  go_wp2_with fail
  refine (split_any _ _).mono ?_
  rintro e w1 ⟨rfl, rfl⟩
  go_wp2_with fail
  refine (maybe_no _ _ _ _ k).mono ?_
  rintro e w1 ⟨rfl, rfl⟩
  go_wp2_with fail
  go_ret
  exact ⟨rfl, rfl⟩

theorem kind_ok (h : Int) (w : World) (k : okH h) :
    Calls Tryd.prog 17 #[.int .i64 h] w fun e w' => e = .returned (.int .i64 (kOf h)) ∧ w = w' := by
  go_enter Tryd.func17, Tryd.ntmps17
  go_wp2_with fail
  refine (split_any _ _).mono ?_
  rintro e w1 ⟨rfl, rfl⟩
  go_wp2_with fail
  refine (maybe_ok _ _ _ _ k).mono ?_
  rintro e w1 ⟨rfl, rfl⟩
  go_wp2_with fail
  go_ret
  exact ⟨rfl, rfl⟩

theorem kind_no (h : Int) (w : World) (k : ¬ okH h) :
    Calls Tryd.prog 17 #[.int .i64 h] w fun e w' => e = .returned (.int .i64 0) ∧ w = w' := by
  go_enter Tryd.func17, Tryd.ntmps17
  go_wp2_with fail
  refine (split_any _ _).mono ?_
  rintro e w1 ⟨rfl, rfl⟩
  go_wp2_with fail
  refine (maybe_no _ _ _ _ k).mono ?_
  rintro e w1 ⟨rfl, rfl⟩
  go_wp2_with fail
  go_ret
  exact ⟨rfl, rfl⟩

theorem slot_ok (h : Int) (w : World) (k : okH h) :
    Calls Tryd.prog 19 #[.int .i64 h] w fun e w' => e = .returned (.int .i64 (sOf h)) ∧ w = w' := by
  go_enter Tryd.func19, Tryd.ntmps19
  go_wp2_with fail
  refine (split_any _ _).mono ?_
  rintro e w1 ⟨rfl, rfl⟩
  go_wp2_with fail
  refine (maybe_ok _ _ _ _ k).mono ?_
  rintro e w1 ⟨rfl, rfl⟩
  go_wp2_with fail
  go_ret
  exact ⟨rfl, rfl⟩

theorem slot_no (h : Int) (w : World) (k : ¬ okH h) :
    Calls Tryd.prog 19 #[.int .i64 h] w fun e w' => e = .returned (.int .i64 (-1)) ∧ w = w' := by
  go_enter Tryd.func19, Tryd.ntmps19
  go_wp2_with fail
  refine (split_any _ _).mono ?_
  rintro e w1 ⟨rfl, rfl⟩
  go_wp2_with fail
  refine (maybe_no _ _ _ _ k).mono ?_
  rintro e w1 ⟨rfl, rfl⟩
  go_wp2_with fail
  go_ret
  exact ⟨rfl, rfl⟩

theorem gen_ok (h : Int) (w : World) (k : okH h) :
    Calls Tryd.prog 21 #[.int .i64 h] w fun e w' => e = .returned (.int .i64 (gOf h)) ∧ w = w' := by
  go_enter Tryd.func21, Tryd.ntmps21
  go_wp2_with fail
  refine (split_any _ _).mono ?_
  rintro e w1 ⟨rfl, rfl⟩
  go_wp2_with fail
  refine (maybe_ok _ _ _ _ k).mono ?_
  rintro e w1 ⟨rfl, rfl⟩
  go_wp2_with fail
  go_ret
  exact ⟨rfl, rfl⟩

theorem gen_no (h : Int) (w : World) (k : ¬ okH h) :
    Calls Tryd.prog 21 #[.int .i64 h] w fun e w' => e = .returned (.int .i64 0) ∧ w = w' := by
  go_enter Tryd.func21, Tryd.ntmps21
  go_wp2_with fail
  refine (split_any _ _).mono ?_
  rintro e w1 ⟨rfl, rfl⟩
  go_wp2_with fail
  refine (maybe_no _ _ _ _ k).mono ?_
  rintro e w1 ⟨rfl, rfl⟩
  go_wp2_with fail
  go_ret
  exact ⟨rfl, rfl⟩

theorem make_ok (k s g : Int) (w : World) (h : okP k s g) :
    Calls Tryd.prog 9 #[.int .i64 k, .int .i64 s, .int .i64 g] w fun e w' => e = .returned (.tuple #[.int .i64 (mkH k s g), .nilIface]) ∧ w = w' := by
  obtain ⟨h1, h2, h3, h4, h5, h6⟩ := id h
  go_enter Tryd.func9, Tryd.ntmps9
  go_wp2_with fail
  refine (maybe_ok _ _ _ _ h).mono ?_
  rintro e w1 ⟨rfl, rfl⟩
  go_wp2_with fail
  go_ret2
  exact ⟨ret_handle (by rw [or_k k s (by omega) h2 h3 h4, or_s k s g (by omega) h2 h3 h4 (by omega) h6]), rfl⟩

theorem make_no (k s g : Int) (w : World) (h : ¬ okP k s g) :
    Calls Tryd.prog 9 #[.int .i64 k, .int .i64 s, .int .i64 g] w fun e w' => e = .returned (.tuple #[.int .i64 0, .iface 54 (.int .i64 1)]) ∧ w = w' := by
  go_enter Tryd.func9, Tryd.ntmps9
  go_wp2_with fail
  refine (maybe_no _ _ _ _ h).mono ?_
  rintro e w1 ⟨rfl, rfl⟩
  go_wp2_with fail
  go_ret2
  exact ⟨rfl, rfl⟩

theorem next_no (h : Int) (w : World) (k : ¬ okH h) :
    Calls Tryd.prog 13 #[.int .i64 h] w fun e w' => e = .returned (.tuple #[.int .i64 0, .iface 54 (.int .i64 20)]) ∧ w = w' := by
  go_enter Tryd.func13, Tryd.ntmps13
  go_wp2_with fail
  refine (valid_no _ _ k).mono ?_
  rintro e w1 ⟨rfl, rfl⟩
  go_wp2_with fail
  go_ret2
  exact ⟨rfl, rfl⟩

theorem next_room (h : Int) (w : World) (k : okH h) (g : gOf h = 1023) :
    Calls Tryd.prog 13 #[.int .i64 h] w fun e w' => e = .returned (.tuple #[.int .i64 0, .iface 54 (.int .i64 30)]) ∧ w = w' := by
  have hg := gen_ok h
  rw [g] at hg
  have HG := Lib.hid hg
  clear hg g
  go_enter Tryd.func13, Tryd.ntmps13
  go_wp2_with fail
  refine (valid_ok _ _ k).mono ?_
  rintro e w1 ⟨rfl, rfl⟩
  go_wp2_with fail
  refine (HG.out _ k).mono ?_
  rintro e w1 ⟨rfl, rfl⟩
  go_wp2_with fail
  go_ret2
  exact ⟨rfl, rfl⟩

theorem next_ok (h : Int) (w : World) (k : okH h) (g : gOf h < 1023) :
    Calls Tryd.prog 13 #[.int .i64 h] w fun e w' => e = .returned (.tuple #[.int .i64 (h + 1), .nilIface]) ∧ w = w' := by
  obtain ⟨b1, b2⟩ := okH_bd k
  have HG := Lib.hid (gen_ok h)
  generalize gOf h = y at *
  go_enter Tryd.func13, Tryd.ntmps13
  go_wp2_with fail
  refine (valid_ok _ _ k).mono ?_
  rintro e w1 ⟨rfl, rfl⟩
  go_wp2_with fail
  refine (HG.out _ k).mono ?_
  rintro e w1 ⟨rfl, rfl⟩
  go_wp2_with fail
  go_ret2
  exact ⟨rfl, rfl⟩

theorem rmake_ok (k s g : Int) (w : World) (h : okP k s g) :
    Calls Tryd.prog 10 #[.int .i64 k, .int .i64 s, .int .i64 g] w fun e w' => e = .returned (.tuple #[.int .i64 (mkH k s g), .int .i64 0]) ∧ w = w' := by
  obtain ⟨h1, h2, h3, h4, h5, h6⟩ := h
  go_enter Tryd.func10, Tryd.ntmps10
  go_wp2
  go_ret2
  exact ⟨rfl, rfl⟩

theorem rmake_no (k s g : Int) (w : World) (h : ¬ okP k s g) :
    Calls Tryd.prog 10 #[.int .i64 k, .int .i64 s, .int .i64 g] w fun e w' => e = .returned (.tuple #[.int .i64 0, .int .i64 1]) ∧ w = w' := by
  by_cases h1 : k < 1
  · clear h
    go_enter Tryd.func10, Tryd.ntmps10
    go_wp2
    go_ret2
    exact ⟨rfl, rfl⟩
  by_cases h2 : 3 < k
  · clear h
    go_enter Tryd.func10, Tryd.ntmps10
    go_wp2
    go_ret2
    exact ⟨rfl, rfl⟩
  by_cases h3 : s < 0
  · clear h
    go_enter Tryd.func10, Tryd.ntmps10
    go_wp2
    go_ret2
    exact ⟨rfl, rfl⟩
  by_cases h4 : 65535 < s
  · clear h
    go_enter Tryd.func10, Tryd.ntmps10
    go_wp2
    go_ret2
    exact ⟨rfl, rfl⟩
  by_cases h5 : g < 1
  · clear h
    go_enter Tryd.func10, Tryd.ntmps10
    go_wp2
    go_ret2
    exact ⟨rfl, rfl⟩
  have h6 : 1023 < g := by unfold okP at h; omega
  clear h
  go_enter Tryd.func10, Tryd.ntmps10
  go_wp2
  go_ret2
  exact ⟨rfl, rfl⟩

theorem rparts_ok (h : Int) (w : World) (k : okH h) :
    Calls Tryd.prog 33 #[.int .i64 h] w fun e w' => e = .returned (.tuple #[.int .i64 (kOf h), .int .i64 (sOf h), .int .i64 (gOf h)]) ∧ w = w' := by
  obtain ⟨b1, b2⟩ := okH_bd k
  have e1 : bits .and .i64 (h / 1048576) 1048575 = sOf h := i64_mask _
  have e2 : bits .and .i64 h 1048575 = gOf h := i64_mask _
  go_enter Tryd.func33, Tryd.ntmps33
  go_wp2_with fail
  refine (rmake_ok (kOf h) _ _ _ k).mono ?_
  rintro e w1 ⟨rfl, rfl⟩
  go_wp2_with fail
  go_ret3
  exact ⟨rfl, rfl⟩

theorem rparts_no (h : Int) (w : World) (k : ¬ okH h) :
    Calls Tryd.prog 33 #[.int .i64 h] w fun e w' => e = .returned (.tuple #[.int .i64 0, .int .i64 (-1), .int .i64 0]) ∧ w = w' := by
  by_cases hn : h < 0
  · go_enter Tryd.func33, Tryd.ntmps33
    go_wp2_with fail
    go_ret3
    exact ⟨rfl, rfl⟩
  · have e1 : bits .and .i64 (h / 1048576) 1048575 = sOf h := i64_mask _
    have e2 : bits .and .i64 h 1048575 = gOf h := i64_mask _
    go_enter Tryd.func33, Tryd.ntmps33
    go_wp2_with fail
    refine (rmake_no (kOf h) _ _ _ k).mono ?_
    rintro e w1 ⟨rfl, rfl⟩
    go_wp2_with fail
    go_ret3
    exact ⟨rfl, rfl⟩

theorem rkind_ok (h : Int) (w : World) (k : okH h) :
    Calls Tryd.prog 18 #[.int .i64 h] w fun e w' => e = .returned (.int .i64 (kOf h)) ∧ w = w' := by
  go_enter Tryd.func18, Tryd.ntmps18
  go_wp2_with fail
  refine (rparts_ok _ _ k).mono ?_
  rintro e w1 ⟨rfl, rfl⟩
  go_wp2_with fail
  go_ret
  exact ⟨rfl, rfl⟩

theorem rkind_no (h : Int) (w : World) (k : ¬ okH h) :
    Calls Tryd.prog 18 #[.int .i64 h] w fun e w' => e = .returned (.int .i64 0) ∧ w = w' := by
  go_enter Tryd.func18, Tryd.ntmps18
  go_wp2_with fail
  refine (rparts_no _ _ k).mono ?_
  rintro e w1 ⟨rfl, rfl⟩
  go_wp2_with fail
  go_ret
  exact ⟨rfl, rfl⟩

theorem rslot_ok (h : Int) (w : World) (k : okH h) :
    Calls Tryd.prog 20 #[.int .i64 h] w fun e w' => e = .returned (.int .i64 (sOf h)) ∧ w = w' := by
  go_enter Tryd.func20, Tryd.ntmps20
  go_wp2_with fail
  refine (rparts_ok _ _ k).mono ?_
  rintro e w1 ⟨rfl, rfl⟩
  go_wp2_with fail
  go_ret
  exact ⟨rfl, rfl⟩

theorem rslot_no (h : Int) (w : World) (k : ¬ okH h) :
    Calls Tryd.prog 20 #[.int .i64 h] w fun e w' => e = .returned (.int .i64 (-1)) ∧ w = w' := by
  go_enter Tryd.func20, Tryd.ntmps20
  go_wp2_with fail
  refine (rparts_no _ _ k).mono ?_
  rintro e w1 ⟨rfl, rfl⟩
  go_wp2_with fail
  go_ret
  exact ⟨rfl, rfl⟩

theorem rgen_ok (h : Int) (w : World) (k : okH h) :
    Calls Tryd.prog 22 #[.int .i64 h] w fun e w' => e = .returned (.int .i64 (gOf h)) ∧ w = w' := by
  go_enter Tryd.func22, Tryd.ntmps22
  go_wp2_with fail
  refine (rparts_ok _ _ k).mono ?_
  rintro e w1 ⟨rfl, rfl⟩
  go_wp2_with fail
  go_ret
  exact ⟨rfl, rfl⟩

theorem rgen_no (h : Int) (w : World) (k : ¬ okH h) :
    Calls Tryd.prog 22 #[.int .i64 h] w fun e w' => e = .returned (.int .i64 0) ∧ w = w' := by
  go_enter Tryd.func22, Tryd.ntmps22
  go_wp2_with fail
  refine (rparts_no _ _ k).mono ?_
  rintro e w1 ⟨rfl, rfl⟩
  go_wp2_with fail
  go_ret
  exact ⟨rfl, rfl⟩

theorem rvalid_ok (h : Int) (w : World) (k : okH h) :
    Calls Tryd.prog 16 #[.int .i64 h] w fun e w' => e = .returned (.bool true) ∧ w = w' := by
  have hk : 0 < kOf h := by have := k.1; omega
  go_enter Tryd.func16, Tryd.ntmps16
  go_wp2_with fail
  refine (rkind_ok _ _ k).mono ?_
  rintro e w1 ⟨rfl, rfl⟩
  go_wp2_with fail
  go_ret
  exact ⟨rfl, rfl⟩

theorem rvalid_no (h : Int) (w : World) (k : ¬ okH h) :
    Calls Tryd.prog 16 #[.int .i64 h] w fun e w' => e = .returned (.bool false) ∧ w = w' := by
  go_enter Tryd.func16, Tryd.ntmps16
  go_wp2_with fail
  refine (rkind_no _ _ k).mono ?_
  rintro e w1 ⟨rfl, rfl⟩
  go_wp2_with fail
  go_ret
  exact ⟨rfl, rfl⟩

theorem rnext_no (h : Int) (w : World) (k : ¬ okH h) :
    Calls Tryd.prog 14 #[.int .i64 h] w fun e w' => e = .returned (.tuple #[.int .i64 0, .int .i64 20]) ∧ w = w' := by
  go_enter Tryd.func14, Tryd.ntmps14
  go_wp2_with fail
  refine (rparts_no _ _ k).mono ?_
  rintro e w1 ⟨rfl, rfl⟩
  go_wp2_with fail
  go_ret2
  exact ⟨rfl, rfl⟩

theorem rnext_room (h : Int) (w : World) (k : okH h) (g : gOf h = 1023) :
    Calls Tryd.prog 14 #[.int .i64 h] w fun e w' => e = .returned (.tuple #[.int .i64 0, .int .i64 30]) ∧ w = w' := by
  have hk : 0 < kOf h := by have := k.1; omega
  have hp := rparts_ok h
  rw [g] at hp
  have HP := Lib.hid hp
  clear hp g
  go_enter Tryd.func14, Tryd.ntmps14
  go_wp2_with fail
  refine (HP.out _ k).mono ?_
  rintro e w1 ⟨rfl, rfl⟩
  go_wp2_with fail
  go_ret2
  exact ⟨rfl, rfl⟩

theorem rnext_ok (h : Int) (w : World) (k : okH h) (g : gOf h < 1023) :
    Calls Tryd.prog 14 #[.int .i64 h] w fun e w' => e = .returned (.tuple #[.int .i64 (h + 1), .int .i64 0]) ∧ w = w' := by
  obtain ⟨n1, n2, n3, n4⟩ := next_parts k g
  have e := mk_of (h + 1)
  rw [n2, n3, n4] at e
  have hm := rmake_ok (kOf h) (sOf h) (gOf h + 1)
  rw [e] at hm
  have hq : okP (kOf h) (sOf h) (gOf h + 1) := by have := n1; unfold okH at this; rw [n2, n3, n4] at this; exact this
  have hk : 0 < kOf h := by have := k.1; omega
  have hg0 := (gOf_nonneg h).1
  have HM := Lib.hid hm
  have HP := Lib.hid (rparts_ok h)
  clear hm n1 n2 n3 n4 e
  generalize kOf h = x at *
  generalize sOf h = y at *
  generalize gOf h = z at *
  go_enter Tryd.func14, Tryd.ntmps14
  go_wp2_with fail
  refine (HP.out _ k).mono ?_
  rintro e w1 ⟨rfl, rfl⟩
  go_wp2_with fail
  refine (HM.out _ hq).mono ?_
  rintro e w1 ⟨rfl, rfl⟩
  go_wp2_with fail
  go_ret2
  exact ⟨rfl, rfl⟩
end Go.Proofs.YtokplbfjpabolaaDoor
