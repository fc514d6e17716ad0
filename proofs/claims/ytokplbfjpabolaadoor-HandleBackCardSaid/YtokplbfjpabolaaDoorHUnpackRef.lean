/- The document's own Unpack at every text; no condition but those that each row names. -/
import Derived.Test.YtokplbfjpabolaaDoorHUnpack
namespace Go.Proofs.YtokplbfjpabolaaDoor
open Go.RowKit

theorem runpack_long (s : ByteArray) (w : World) (hs : 24576 < s.size) (hm : s.size ≤ 9223372036854775807) :
    Calls Tryd.prog 30 #[.string s] w fun e w' => e = .returned (.tuple #[.slice none 0 0, .int .i64 3]) ∧ Below w.heap.size w w' := by
  go_enter Tryd.func30, Tryd.ntmps30
  go_wp2_with fail
  go_ret2
  exact ⟨rfl, Below.refl _ _⟩
theorem runpack_form (s : ByteArray) (w : World) (hs : s.size ≤ 24576) (h6 : s.size % 6 ≠ 0) :
    Calls Tryd.prog 30 #[.string s] w fun e w' => e = .returned (.tuple #[.slice none 0 0, .int .i64 4]) ∧ Below w.heap.size w w' := by
  have h6' : ((s.size : Int) % 6 != 0) = true := by rw [bne_iff_ne]; omega
  clear h6
  go_enter Tryd.func30, Tryd.ntmps30
  go_wp2_with fail
  go_ret2
  exact ⟨rfl, Below.refl _ _⟩

theorem news_oneU (w : World) (v : Value) (t : TypeId) : ∀ (j : Nat) x, [v][j]? = some x → (w.alloc (.cells #[v] t)).cell? ((⟨w.heap.size, 0, none⟩ : Addr).add j) = some x := by
  intro j x hj
  match j, hj with
  | 0, hj => simp at hj; subst hj; simp [Addr.add]
theorem six_next (l : List UInt8) (j k : Nat) (b : UInt8) (hk : k < 6) (hb : l[6 * j + k]? = some b) : ((l.drop (6 * j)).take 6).take (k + 1) = ((l.drop (6 * j)).take 6).take k ++ [b] := by
  rw [List.take_take, List.take_take, show min (k + 1) 6 = k + 1 by omega, show min k 6 = k by omega, List.take_add_one, List.getElem?_drop, hb]
  rfl

set_option maxHeartbeats 8000000 in
set_option maxRecDepth 100000 in
theorem runpack_any (s : ByteArray) (n : Nat) (w : World) (hs : s.size ≤ 24576) (hn : s.size = 6 * n) :
    Calls Tryd.prog 30 #[.string s] w (UPost s.data.toList n (.int .i64 20) (.int .i64 0) w) := by
  obtain ⟨i0, hi, hz0, hz1, hz2⟩ := info_parts Tryd.info22
  have h6 : ((s.size : Int) % 6 != 0) = false := by rw [bne_eq_false_iff_eq]; omega
  have hn2 : n ≤ 4096 := by omega
  have hz3 : decide (24576 < (s.size : Int)) = false := decide_eq_false (by omega)
  have HN := Lib.hid hn
  have HO0 := Lib.hid (show OwnI 22 w.heap.size w (.slice none 0 0) (unF s.data.toList 0) from ⟨rfl, .inl ⟨rfl, rfl⟩⟩)
  clear hn
  go_enter Tryd.func30, Tryd.ntmps30
  go_wp2_with fail
  go_loopw [4, 5, 6, 7] (fun v at' _ _ wr => ∃ (j a : Nat) (p : Option Addr) (cap : Nat), j ≤ n ∧ at' = .int .i64 a ∧ a ≤ s.size ∧ Hid (a = 6 * j) ∧ v = .slice p j cap ∧
      Hid (OwnI 22 w.heap.size wr (.slice p j cap) (unF s.data.toList j)) ∧ Hid (∀ i, i < j → pk (nAt s.data.toList i)) ∧ Below w.heap.size w wr) (fun _ at' _ _ _ => s.size - (intOf at').toNat)
  case atStart => exact ⟨0, 0, none, 0, Nat.zero_le _, rfl, by omega, Lib.hid rfl, rfl, HO0, Lib.hid (fun i k => by omega), Below.refl _ _⟩
  case round =>
    obtain ⟨j, a, p, cap, hj, rfl, ha, HA, rfl, HX, HP, hb⟩ := hrel
    by_cases hlt : j < n
    · have halt : a + 6 ≤ s.size := by have h1 := HA.out; have h2 := HN.out; omega
      have hz4 : decide (a < s.size) = true := decide_eq_true (by omega)
      obtain ⟨wo, hwo⟩ : ∃ wo : World, wo = wr := ⟨_, rfl⟩
      subst hwo
      go_wp2_with fail
      go_loop [6, 7] (fun hv kv => ∃ (k : Nat) (x : Int), k ≤ 6 ∧ kv = .int .i64 k ∧ hv = .int .i64 x ∧ Hid (numL 0 (((s.data.toList.drop (6 * j)).take 6).take k) = x)) (fun _ kv => 6 - (intOf kv).toNat)
      case atStart => exact ⟨0, 0, Nat.zero_le _, rfl, rfl, Lib.hid rfl⟩
      case round =>
        obtain ⟨k, x, hk, rfl, rfl, HK⟩ := hrel
        by_cases hk6 : k < 6
        · obtain ⟨x0, x1⟩ := numL_lt5 (l := ((s.data.toList.drop (6 * j)).take 6).take k) (by rw [List.length_take]; omega)
          rw [HK.out] at x0 x1
          have hin : a + k < s.size := by omega
          have hby : s.data.toList[6 * j + k]? = some (s[a + k]'hin) := by
            rw [← HA.out, List.getElem?_eq_getElem (by rw [Array.length_toList]; exact hin)]; rfl
          have hb256 : ((s[a + k]'hin).toNat : Int) < 256 := by have := (s[a + k]'hin).toNat_lt; omega
          have HS : Hid (numL 0 (((s.data.toList.drop (6 * j)).take 6).take (k + 1)) = x * 256 + ((s[a + k]'hin).toNat : Int)) := by
            unfold Hid; rw [six_next _ _ _ _ hk6 hby, numL_snoc, HK.out]
          clear HK hby
          go_wp2_with fail
          go_round
          case rel => exact ⟨k + 1, _, by omega, by go_num, rfl, HS⟩
          case measure => simp [intOf]; omega
        · have hx : x = nAt s.data.toList j := by
            have := HK.out
            rw [List.take_take, show min k 6 = 6 by omega] at this
            exact this.symm
          have hbig := numL_lt6 (l := (s.data.toList.drop (6 * j)).take 6) (by rw [List.length_take]; omega)
          have hbig' : 0 ≤ x ∧ x < 281474976710656 := by rw [hx]; exact hbig
          obtain ⟨x0, x1⟩ := hbig'
          by_cases hpk : pk x
          · have HXX := Lib.hid hx
            have hcase : (x != 0) = false ∨ ((x != 0) = true ∧ okH x) := by
              rcases hpk with rfl | hok
              · exact .inl rfl
              · exact .inr ⟨by rw [bne_iff_ne]; exact okH_ne hok, hok⟩
            have HP' := Lib.hid (show ∀ i, i < j + 1 → pk (nAt s.data.toList i) from fun i hi => by
              by_cases h : i < j
              · exact HP.out i h
              · obtain rfl : i = j := by omega
                rw [← hx]; exact hpk)
            have HV := Lib.hid (fun w (h : okH x) => rvalid_ok x w h)
            clear hpk hx hbig HK
            rcases hcase with h0 | ⟨h0, hok⟩
            all_goals
              go_wp2_with (first
                | (go_at_call 16; refine (HV.out _ (by assumption)).mono ?_; rintro e w1 ⟨rfl, rfl⟩)
                | (at_builtin; refine wpList_append_own _ rfl _ _ 40 rfl w.heap.size 22 i0 (.int .i64 0) 1 8 Tryd.underlying40 hi hz0 hz1 hz2 rfl (by decide) _ _ _ rfl (HX.out.alloc _) ⟨wo.heap.size, 0, none⟩ 1 1 [.int .i64 x] rfl rfl (news_oneU wo _ _) (fun y hy => by simp at hy; subst hy; rfl) (by rw [unF_len]; unfold maxLen; omega) (by rw [unF_len]; omega) (by have := hb.size; simp; omega) ?_))
              intro v' w2 hown' hgrow _
              have hown3 := ownI_next _ hown'
              rw [HXX.out, ← unF_succ] at hown3
              have hb3 : Below w.heap.size w w2 := (hb.alloc hb.size _).grown hgrow (by have := hb.size; simp; omega) fun k hk => (HX.out.lt k hk).1
              clear hown' hgrow hb
              obtain ⟨p', cap', rfl⟩ := ownI_shape0 hown3
              rw [unF_len] at hown3
              have HO' := Lib.hid hown3
              have HA' := Lib.hid (show a + 6 = 6 * (j + 1) from by have := HA.out; omega)
              clear hown3
              go_wp2_with fail
              go_roundw
              case rel => exact ⟨j + 1, a + 6, p', cap', by omega, by go_num, by omega, HA', by rw [unF_len], HO', HP', hb3⟩
              case measure => simp [intOf]; omega
          · have hne : (x != 0) = true := by rw [bne_iff_ne]; exact fun e => hpk (.inl e)
            have hno : ¬ okH x := fun e => hpk (.inr e)
            have HNP := Lib.hid (show ¬ pk (nAt s.data.toList j) from by rw [← hx]; exact hpk)
            have HV := Lib.hid (fun w => rvalid_no x w hno)
            clear hpk hno hx hbig HK
            go_wp2_with fail
            refine (HV.out _).mono ?_
            rintro e w1 ⟨rfl, rfl⟩
            go_wp2_with fail
            go_ret2
            exact upost_no hlt HNP.out hb
    · have hjn : j = n := by omega
      have hge : (s.size : Int) ≤ a := by have h1 := HA.out; have h2 := HN.out; omega
      have HX2 : Ints wr (.slice p j cap) (unF s.data.toList n) := by rw [← hjn]; exact ownI_ints HX.out (by rw [unF_len]; omega)
      have HI := Lib.hid HX2
      have HP2 := Lib.hid (show ∀ i, i < n → pk (nAt s.data.toList i) from by rw [← hjn]; exact HP.out)
      clear hjn HX2
      go_wp2_with fail
      go_ret2
      exact upost_ok HP2.out HI.out hb
end Go.Proofs.YtokplbfjpabolaaDoor
