/- handle.guess and handle.Read at every text; no condition but what the row's listed variables hold. -/
import Derived.Test.YtokplbfjpabolaaDoorHTextW
import Derived.Test.YtokplbfjpabolaaDoorHRead
namespace Go.Proofs.YtokplbfjpabolaaDoor
open Go.RowKit

theorem cutDot_len (l : List UInt8) : (cutDot l).1.length ≤ l.length ∧ (cutDot l).2.length ≤ l.length := by
  unfold cutDot
  split
  · simp only [List.length_take, List.length_drop]; omega
  · simp

theorem guess_empty (s : ByteArray) (h : s.data.toList = []) (w : World) :
    Calls Tryd.prog 35 #[.string s] w fun e w' => e = .returned (.int .i64 0) ∧ Below w.heap.size w w' := by
  obtain rfl : s = ⟨#[]⟩ := ba_of_list h
  clear h
  go_enter Tryd.func35, Tryd.ntmps35
  go_wp2_with fail
  go_ret
  exact ⟨rfl, Below.refl _ _⟩

theorem atoiL_ok (l : List UInt8) (hl : l.length ≤ 32) (v : Int) (h : Lib.atoiAll l = .ok v) (w : World) :
    Calls Tryd.prog 43 #[.string ⟨l.toArray⟩] w fun e w' => e = .returned (.tuple #[.int .i64 v, .nilIface]) ∧ Below w.heap.size w w' :=
  atoi_ok ⟨l.toArray⟩ (by simpa [ByteArray.size] using hl) v (by rw [list_of_ba]; exact h) w
theorem atoiL_no (l : List UInt8) (hl : l.length ≤ 32) (h : ∀ v, Lib.atoiAll l ≠ .ok v) (w : World) (hg : LaidAt w) :
    Calls Tryd.prog 43 #[.string ⟨l.toArray⟩] w fun e w' => ∃ n a, e = .returned (.tuple #[.int .i64 n, .iface 76 (.pointer (some a))]) ∧ Below w.heap.size w w' :=
  atoi_no ⟨l.toArray⟩ (by simpa [ByteArray.size] using hl) (by rw [list_of_ba]; exact h) w hg
theorem kindL_bd (c : UInt8) : 0 ≤ kindL c ∧ kindL c ≤ 3 := by
  have h1 := Lib.indexByte_ge [110, 116, 115] c
  have h2 := indexByte_lt c [110, 116, 115]
  unfold kindL
  simp only [List.length_cons, List.length_nil] at h2
  omega
theorem kindB_any (c : UInt8) (w : World) :
    Calls Tryd.prog 44 #[.string ⟨#[110, 116, 115]⟩, .int .u8 c.toNat] w fun e w' => e = .returned (.int .i64 (kindL c - 1)) ∧ w = w' := by
  refine (indexByte_any ⟨#[110, 116, 115]⟩ c.toNat w).mono ?_
  rintro e w' ⟨rfl, rfl⟩
  refine ⟨ret_int ?_, rfl⟩
  show Lib.indexByte [110, 116, 115] ((c.toNat : Int).toNat.toUInt8) = _
  rw [Int.toNat_natCast, show c.toNat.toUInt8 = c by simp]
  unfold kindL
  omega

set_option maxHeartbeats 1000000 in
set_option maxRecDepth 100000 in
theorem guess_full (s : ByteArray) (c : UInt8) (r : List UInt8) (h : s.data.toList = c :: r) (hs : s.size ≤ 32) (w : World) (hg : LaidAt w) :
    Calls Tryd.prog 35 #[.string s] w fun e w' => e = .returned (.int .i64 (guessN c (Lib.atoiAll (cutDot r).1) (Lib.atoiAll (cutDot r).2))) ∧ Below w.heap.size w w' := by
  have hl : s.data.toList.length = s.size := Array.length_toList
  have hx : (s.extract 1 s.size).data.toList = r := by rw [extract_list, List.take_of_length_le (show s.data.toList.length ≤ s.size from Nat.le_of_eq hl), h]; rfl
  rw [h] at hl
  have hr : r.length + 1 = s.size := hl
  have hxs : (s.extract 1 s.size).size ≤ 32 := by
    have : (s.extract 1 s.size).data.toList.length = (s.extract 1 s.size).size := Array.length_toList
    rw [hx] at this; omega
  have hcut := fun w => cut_dot (s.extract 1 s.size) w hxs
  rw [hx] at hcut
  obtain ⟨k1, k2⟩ := cutDot_len r
  have hpos : 0 < s.size := by omega
  have hsz : (1 : Int) ≤ s.size := by omega
  have hne : s.toList.isEmpty = false := by rw [Lib.toList_data, h]; rfl
  have hc0 : s[0]'hpos = c := by
    have : s.data.toList[0]? = some c := by rw [h]; rfl
    have e : s.data.toList[0]? = some (s[0]'hpos) := by rw [List.getElem?_eq_getElem (by rw [h]; simp)]; rfl
    rw [e] at this; exact Option.some.inj this
  have HC := Lib.hid hcut
  have JG := Lib.hid hg
  have l1 : (cutDot r).1.length ≤ 32 := by omega
  have l2 : (cutDot r).2.length ≤ 32 := by omega
  clear hcut hg hx hxs hl h k1 k2
  generalize (cutDot r).1 = a at *
  generalize (cutDot r).2 = b at *
  cases ha : Lib.atoiAll a with
  | ok v =>
    have HA := Lib.hid (atoiL_ok a l1 v ha)
    cases hb : Lib.atoiAll b with
    | ok u =>
      have HB := Lib.hid (atoiL_ok b l2 u hb)
      clear ha hb
      show Calls _ _ _ _ fun e w' => e = .returned (.int .i64 (if okP (kindL c) v u then mkH (kindL c) v u else 0)) ∧ _
      obtain ⟨y0, y3⟩ := kindL_bd c
      have HK := Lib.hid (kindB_any c)
      generalize kindL c = y at *
      by_cases hp : okP y v u
      · rw [if_pos hp]
        have HM := Lib.hid (fun w => make_ok y v u w hp)
        clear hp
        go_enter Tryd.func35, Tryd.ntmps35
        go_wp2_with fail
        refine (HC.out _).mono ?_
        rintro e w1 ⟨b, rfl, hb1⟩
        go_wp2_with fail
        refine (HA.out _).mono ?_
        rintro e w2 ⟨rfl, hb2⟩
        go_wp2_with fail
        refine (HB.out _).mono ?_
        rintro e w3 ⟨rfl, hb3⟩
        go_wp2_with fail
        refine (HK.out _).mono ?_
        rintro e w4 ⟨rfl, rfl⟩
        go_wp2_with fail
        refine (HM.out _).mono ?_
        rintro e w4 ⟨rfl, rfl⟩
        go_wp2_with fail
        go_ret
        exact ⟨rfl, bnext (bnext hb1 hb2) hb3⟩
      · rw [if_neg hp]
        have HM := Lib.hid (fun w => make_no y v u w hp)
        clear hp
        go_enter Tryd.func35, Tryd.ntmps35
        go_wp2_with fail
        refine (HC.out _).mono ?_
        rintro e w1 ⟨b, rfl, hb1⟩
        go_wp2_with fail
        refine (HA.out _).mono ?_
        rintro e w2 ⟨rfl, hb2⟩
        go_wp2_with fail
        refine (HB.out _).mono ?_
        rintro e w3 ⟨rfl, hb3⟩
        go_wp2_with fail
        refine (HK.out _).mono ?_
        rintro e w4 ⟨rfl, rfl⟩
        go_wp2_with fail
        refine (HM.out _).mono ?_
        rintro e w4 ⟨rfl, rfl⟩
        go_wp2_with fail
        go_ret
        exact ⟨rfl, bnext (bnext hb1 hb2) hb3⟩
    | «syntax» | range =>
      have HB := Lib.hid (fun w => atoiL_no b l2 (by rw [hb]; intro v k; cases k) w)
      show Calls _ _ _ _ fun e w' => e = .returned (.int .i64 0) ∧ _
      clear ha hb
      go_enter Tryd.func35, Tryd.ntmps35
      go_wp2_with fail
      refine (HC.out _).mono ?_
      rintro e w1 ⟨b, rfl, hb1⟩
      go_wp2_with fail
      refine (HA.out _).mono ?_
      rintro e w2 ⟨rfl, hb2⟩
      go_wp2_with fail
      refine (HB.out _ (JG.out.below (bnext hb1 hb2))).mono ?_
      rintro e w3 ⟨n, x, rfl, hb3⟩
      go_wp2_with fail
      go_ret
      exact ⟨rfl, bnext (bnext hb1 hb2) hb3⟩
  | «syntax» | range =>
    have HA := Lib.hid (fun w => atoiL_no a l1 (by rw [ha]; intro v k; cases k) w)
    show Calls _ _ _ _ fun e w' => e = .returned (.int .i64 0) ∧ _
    clear ha
    go_enter Tryd.func35, Tryd.ntmps35
    go_wp2_with fail
    refine (HC.out _).mono ?_
    rintro e w1 ⟨b, rfl, hb1⟩
    go_wp2_with fail
    refine (HA.out _ (JG.out.below hb1)).mono ?_
    rintro e w2 ⟨n, x, rfl, hb2⟩
    go_wp2_with fail
    go_ret
    exact ⟨rfl, bnext hb1 hb2⟩

theorem guess_any (s : ByteArray) (hs : s.size ≤ 32) (w : World) (hg : LaidAt w) :
    Calls Tryd.prog 35 #[.string s] w fun e w' => e = .returned (.int .i64 (guessV s.data.toList)) ∧ Below w.heap.size w w' := by
  cases h : s.data.toList with
  | nil => exact guess_empty s h w
  | cons c r => exact guess_full s c r h hs w hg
theorem text_any (h : Int) (w : World) (hg : LaidAt w) : Calls Tryd.prog 25 #[.int .i64 h] w fun e w' => e = .returned (.string ⟨(textL h).toArray⟩) ∧ Below w.heap.size w w' := by
  by_cases h0 : h = 0
  · subst h0; exact text_0 w
  · by_cases k : okH h
    · exact text_ok h w hg k
    · rw [textL_no k h0]; exact text_no h h0 w k

theorem read_long (s : ByteArray) (hs : 32 < s.size) (w : World) :
    Calls Tryd.prog 23 #[.string s] w fun e w' => e = .returned (.tuple #[.int .i64 0, .iface 54 (.int .i64 3)]) ∧ Below w.heap.size w w' := by
  go_enter Tryd.func23, Tryd.ntmps23
  go_wp2_with fail
  go_ret2
  exact ⟨rfl, Below.refl _ _⟩

theorem read_is (s : ByteArray) (h : Int) (k : h = 0 ∨ okH h) (hs : s.data.toList = textL h) (w : World) (hg : LaidAt w) :
    Calls Tryd.prog 23 #[.string s] w fun e w' => e = .returned (.tuple #[.int .i64 h, .nilIface]) ∧ Below w.heap.size w w' := by
  have hl : s.data.toList.length = s.size := Array.length_toList
  have h33 : (textL h).length ≤ 32 := text_len k
  have h32 : s.size ≤ 32 := by rw [← hl, hs]; exact h33
  have hv : guessV s.data.toList = h := by
    rw [hs]
    rcases k with rfl | k
    · exact guess_dash
    · exact guess_text k
  have HG := Lib.hid (guess_any s h32)
  rw [hv] at HG
  obtain rfl : s = ⟨(textL h).toArray⟩ := ba_of_list hs
  have HT := Lib.hid (text_any h)
  have JG := Lib.hid hg
  clear hl hs hv hg k
  generalize textL h = l at *
  go_enter Tryd.func23, Tryd.ntmps23
  go_wp2_with fail
  refine (HG.out _ JG.out).mono ?_
  rintro e w1 ⟨rfl, hb1⟩
  go_wp2_with fail
  refine (HT.out _ (JG.out.below hb1)).mono ?_
  rintro e w2 ⟨rfl, hb2⟩
  go_wp2_with fail
  go_ret2
  exact ⟨rfl, bnext hb1 hb2⟩

theorem read_no (s : ByteArray) (h32 : s.size ≤ 32) (hno : ∀ n, (n = 0 ∨ okH n) → s.data.toList ≠ textL n) (w : World) (hg : LaidAt w) :
    Calls Tryd.prog 23 #[.string s] w fun e w' => e = .returned (.tuple #[.int .i64 0, .iface 54 (.int .i64 4)]) ∧ Below w.heap.size w w' := by
  have hne := guess_no hno
  have HG := Lib.hid (guess_any s h32)
  generalize guessV s.data.toList = h at *
  have HT := Lib.hid (text_any h)
  have JG := Lib.hid hg
  clear hg hno
  generalize textL h = l at *
  have hne' : (l == s.toList) = false := by rw [beq_eq_false_iff_ne, Lib.toList_data]; exact hne
  clear hne
  go_enter Tryd.func23, Tryd.ntmps23
  go_wp2_with fail
  refine (HG.out _ JG.out).mono ?_
  rintro e w1 ⟨rfl, hb1⟩
  go_wp2_with fail
  refine (HT.out _ (JG.out.below hb1)).mono ?_
  rintro e w2 ⟨rfl, hb2⟩
  go_wp2_with fail
  go_ret2
  exact ⟨rfl, bnext hb1 hb2⟩
end Go.Proofs.YtokplbfjpabolaaDoor
