/- The walk of the law HeapPops: it answers true whatever is put in; it writes nothing that was there; no condition but how the argument reads. -/
import Derived.Test.YtodcnlmodoahjaaEOpsAt
import Derived.Deep.CutRange
namespace Go.Proofs.Ytodcnlmodoahjaa
open Go.RowKit Go.Maps Hp

/-- The heap while it is filled. -/
def Fill (w : World) (b : Nat) (R : List (Int × Int)) (W : World) : Prop := (∃ S, HpR kc_I enc_I HT_I NT_I w.heap.size S W R b) ∧ Below w.heap.size w W
theorem Fill.drew {w W : World} {b : Nat} {R : List (Int × Int)} (h : Fill w b R W) : Fill w b R W.drew := by
  obtain ⟨⟨S, h1⟩, h2⟩ := h
  exact ⟨⟨S, h1.keeps (Q := fun _ => False) ((Keeps.refl _ W).drew) (fun _ _ k => k)⟩, h2.drew⟩
/-- What a push makes of it. -/
theorem Fill.come {w W W' : World} {b : Nat} {R R' : List (Int × Int)} {S : Nat → Prop} (h : HpR kc_I enc_I HT_I NT_I w.heap.size S W R b) (hb : Below w.heap.size w W) (hc : Come kc_I enc_I HT_I NT_I w.heap.size S W R' b W') : Fill w b R' W' := by
  have hu := Come.under hb h hb.size hc
  obtain ⟨S', h1, _, _⟩ := hc
  exact ⟨⟨S', h1⟩, hu⟩
/-- The key, the number of the one before. -/
def prevK (Q : List (Int × Int)) (k : Nat) : Int := if k = 0 then 0 else (at' Q (k - 1)).2
def prevI (Q : List (Int × Int)) (k : Nat) : Int := if k = 0 then 0 else (at' Q (k - 1)).1
/-- The heap while it is emptied. -/
def Empt (w : World) (b : Nat) (Q : List (Int × Int)) (v : Value) (k : Nat) (W : World) : Prop :=
  (∃ S, HpR kc_I enc_I HT_I NT_I w.heap.size S W (Q.drop k) b ∧ Lst S W v (ints (Q.map (·.1)))) ∧ Below w.heap.size w W

set_option maxHeartbeats 2000000 in
set_option maxRecDepth 100000 in
theorem pops_any (v : Value) (l : List (Int × Int × Int)) (w : World) (ho : OpsAt w v l) :
    Calls Try.prog 3 #[v] w fun e w' => e = .returned (.bool true) ∧ Below w.heap.size w w' := by
  have HOW := Lib.hid ho
  obtain ⟨p, cap, rfl, hl63, hcells⟩ := ho
  have HC := Lib.hid hcells
  have hl63' : (l.length : Int) ≤ 9223372036854775807 := by omega
  have h0 := hp_new_I (B := w.heap.size) w (Nat.le_refl _)
  have HF0 := Lib.hid (show Fill w w.heap.size [] (w.alloc (.cells #[.slice none 0 0, .map none] HT_I)) from ⟨⟨_, h0⟩, (Below.refl _ _).alloc (Nat.le_refl _) _⟩)
  clear hcells h0
  go_enter Try.func3, Try.ntmps3
  go_wp2_with fail
  refine (new_I w).mono ?_
  rintro e w1 ⟨rfl, rfl⟩
  go_wp2_with fail
  go_loopw [4, 5] (fun nv iv wr => ∃ (k : Nat) (R : List (Int × Int)), nv = .int .i64 R.length ∧ iv = .int .i64 k ∧ R.length ≤ k ∧ k ≤ 300 ∧ k ≤ l.length ∧ Hid (Fill w w.heap.size R wr)) (fun _ iv _ => l.length - (intOf iv).toNat)
  case atStart => exact ⟨0, [], rfl, rfl, by simp, by omega, by omega, HF0⟩
  case round =>
    obtain ⟨k, R, rfl, rfl, hRk, hk3, hkl, HF⟩ := hrel
    clear HF0
    by_cases hlt : k < l.length
    · by_cases hlt3 : k < 300
      · have hlt' : (k : Int) < (l.length : Int) := by omega
        have hlt3' : (k : Int) < 300 := by omega
        have HOW2 := Lib.hid (HOW.out.below HF.out.2)
        obtain ⟨⟨k0, id, key⟩, hq⟩ : ∃ q, l[k]? = some q := ⟨_, List.getElem?_eq_getElem hlt⟩
        obtain ⟨p', cap', e1, _, hc2⟩ := HOW2.out
        obtain ⟨b, off, rfl, _, c1, c2, hid⟩ := hc2 k k0 id key hq
        injection e1 with e1 _ e3
        subst e1
        clear hc2 hq HOW2 e3
        by_cases hin : ∃ e ∈ R, e.1 = id
        · have HP := Lib.hid (show Calls Try.prog 6 #[.pointer (some ⟨w.heap.size, 0, none⟩), .int .i64 id, .int .i64 key] wr.drew (fun e w' => e = .returned (.iface 50 (.int .i64 1)) ∧ wr.drew = w') from by
            obtain ⟨⟨S, h1⟩, _⟩ := HF.out.drew
            exact push_again_I h1 id key hin)
          clear hin
          go_wp2_with fail
          go_still_tail 11, (by kernel_rfl)
          change wpList _ _ _ _ _ wr.drew
          go_wp2_with fail
          refine HP.out.mono ?_
          rintro e w2 ⟨rfl, rfl⟩
          go_wp2_with fail
          go_roundw
          case rel => exact ⟨k + 1, R, rfl, by go_num, by omega, by omega, by omega, Lib.hid HF.out.drew⟩
          case measure => simp [intOf]; omega
        · have HP := Lib.hid (show Calls Try.prog 6 #[.pointer (some ⟨w.heap.size, 0, none⟩), .int .i64 id, .int .i64 key] wr.drew (fun e w' => e = .returned .nilIface ∧ Fill w w.heap.size ((id, key) :: R) w') from by
            obtain ⟨⟨S, h1⟩, h2⟩ := HF.out.drew
            exact (push_I h1 id key hid (fun e he h => hin ⟨e, he, h⟩) (by omega) h2.size).mono fun e w' ⟨he, hc⟩ => ⟨he, Fill.come h1 h2 hc⟩)
          clear hin
          go_wp2_with fail
          go_still_tail 11, (by kernel_rfl)
          change wpList _ _ _ _ _ wr.drew
          go_wp2_with fail
          refine HP.out.mono ?_
          rintro e w2 ⟨rfl, hf⟩
          have HF2 := Lib.hid hf
          clear hf
          go_wp2_with fail
          go_roundw
          case rel => exact ⟨k + 1, (id, key) :: R, by go_num, by go_num, by simp; omega, by omega, by omega, HF2⟩
          case measure => simp [intOf]; omega
      · have hg3 : decide ((k : Int) < 300) = false := decide_eq_false (by omega)
        have hlt' : (k : Int) < (l.length : Int) := by omega
        clear hlt3
        obtain ⟨Q, hQ, hs⟩ := sorted_has R
        have hlq := hQ.length_eq
        have HA := Lib.hid (show Calls Try.prog 7 #[.pointer (some ⟨w.heap.size, 0, none⟩)] wr (fun e w' => ∃ p2 cap2, e = .returned (.slice p2 R.length cap2) ∧ Empt w w.heap.size Q (.slice p2 R.length cap2) 0 w') from by
          obtain ⟨⟨S, h1⟩, h2⟩ := HF.out
          refine (all_I h1 Q hQ hs).mono fun e w' ⟨v2, he, hown, hb⟩ => ?_
          obtain ⟨p2, cap2, rfl⟩ := own_shape hown (by simp [ints])
          refine ⟨p2, cap2, by rw [he, hlq], ⟨S, ?_, ?_⟩, bnext h2 hb⟩
          · rw [List.drop_zero]; exact (h1.below hb).perm hQ.symm
          · rw [← hlq]
            exact Lst.of_own hown (by simp [ints]) (by omega) (fun b hb1 hb2 hS => by have := h1.lt b hS; omega))
        have HQS := Lib.hid hs
        have HLQ := Lib.hid hlq
        have HRN := Lib.hid (show ∀ i j, i < j → ∀ (h : j < Q.length), ahB kc_I (at' Q i) (at' Q j) = true from by
          obtain ⟨⟨S, h1⟩, _⟩ := HF.out
          have hnd := (h1.perm hQ.symm).nodup
          intro i j hij hj
          rw [at_get (by omega), at_get hj]
          refine ord_I.lt_of_le_ne (List.pairwise_iff_getElem.1 hs i j (by omega) hj hij) fun e => ?_
          have := List.pairwise_iff_getElem.1 hnd i j (by simpa using Nat.lt_trans hij hj) (by simpa using hj) hij
          simp [e] at this)
        have hR3 : R.length ≤ 300 := by omega
        clear hQ hs hlq HF hRk hk3 hkl
        go_wp2_with fail
        refine HA.out.mono ?_
        rintro e w2 ⟨p2, cap2, rfl, hE⟩
        have HE := Lib.hid hE
        have HLN := Lib.hid (show Calls Try.prog 8 #[.pointer (some ⟨w.heap.size, 0, none⟩)] w2 (fun e w' => e = .returned (.int .i64 R.length) ∧ w2 = w') from by
          obtain ⟨⟨S, h1, _⟩, _⟩ := hE
          rw [List.drop_zero] at h1
          have := len_I h1
          rwa [HLQ.out] at this)
        clear hE HA
        go_wp2_with fail
        refine HLN.out.mono ?_
        rintro e w3 ⟨rfl, rfl⟩
        go_wp2_with fail
        go_loopw [9, 7, 8] (fun iv lv gv wr => ∃ j : Nat, iv = .int .i64 j ∧ j ≤ R.length ∧ lv = .int .i64 (prevK Q j) ∧ gv = .int .i64 (prevI Q j) ∧ Hid (Empt w w.heap.size Q (.slice p2 R.length cap2) j wr)) (fun iv _ _ _ => R.length - (intOf iv).toNat)
        case atStart => exact ⟨0, rfl, Nat.zero_le _, rfl, rfl, HE⟩
        case round =>
          obtain ⟨j, rfl, hj, rfl, rfl, HEj⟩ := hrel
          clear HE HLN
          by_cases hlj : j < R.length
          · have hjq : j < Q.length := by have := HLQ.out; omega
            have hlj' : (j : Int) < (R.length : Int) := by omega
            have hd : Q.drop j = Q[j] :: Q.drop (j + 1) := List.drop_eq_getElem_cons hjq
            obtain ⟨x, hx⟩ : ∃ x, x = Q[j] := ⟨_, rfl⟩
            have HX := Lib.hid hx
            have HP := Lib.hid (show Calls Try.prog 9 #[.pointer (some ⟨w.heap.size, 0, none⟩)] wr (fun e w' => e = .returned (.tuple #[.int .i64 x.1, .int .i64 x.2, .bool true]) ∧ Empt w w.heap.size Q (.slice p2 R.length cap2) (j + 1) w') from by
              obtain ⟨⟨S, h1, h3⟩, h2⟩ := HEj.out
              rw [hd, ← hx] at h1
              have hsd : (x :: Q.drop (j + 1)).Pairwise (le (ahB kc_I)) := by rw [hx, ← hd]; exact HQS.out.drop
              exact (pop_I h1 x (Q.drop (j + 1)) (sorted_mn cmp_I hsd) (List.Perm.refl _)).mono fun e w' ⟨he, hg⟩ => ⟨he, ⟨S, hg.1, h3.keeps hg.2⟩, h2.trans (h1.under h2.size hg.2)⟩)
            have HKP := Lib.hid (show prevK Q (j + 1) = x.2 ∧ prevI Q (j + 1) = x.1 from by
              unfold prevK prevI
              rw [if_neg (by omega), if_neg (by omega), show j + 1 - 1 = j from rfl, at_get hjq, hx]
              exact ⟨rfl, rfl⟩)
            have HOD := Lib.hid (show 0 < j → prevK Q j < x.2 ∨ prevK Q j = x.2 ∧ prevI Q j < x.1 from fun h0 => by
              have := ah_iff.1 (HRN.out (j - 1) j (by omega) hjq)
              unfold prevK prevI
              rw [if_neg (by omega), if_neg (by omega)]
              rw [at_get hjq, ← hx] at this
              exact this)
            have HAT := fun (w' : World) (h : Empt w w.heap.size Q (.slice p2 R.length cap2) (j + 1) w') => Lib.hid (show ∃ b off, p2 = some ⟨b, off, none⟩ ∧ w'.cell? ⟨b, off + j, none⟩ = some (.int .i64 x.1) from by
              obtain ⟨⟨S, _, h3⟩, _⟩ := h
              obtain ⟨p, c, e, _, hc⟩ := h3
              injection e with e _ _
              obtain ⟨b, off, e2, _, hcell⟩ := hc j (.int .i64 x.1) (by simp [ints, hjq, hx])
              exact ⟨b, off, e.trans e2, hcell⟩)
            obtain ⟨xi, xk⟩ := x
            obtain ⟨pk, hpk⟩ : ∃ z, z = prevK Q j := ⟨_, rfl⟩
            obtain ⟨pi, hpi⟩ : ∃ z, z = prevI Q j := ⟨_, rfl⟩
            rw [← hpk, ← hpi] at HOD ⊢
            clear hd hx hpk hpi
            rcases Nat.eq_zero_or_pos j with h0 | h0
            · subst h0
              have z0 : decide ((0 : Int) < 0) = false := rfl
              go_wp2_with fail
              refine HP.out.mono ?_
              rintro e w4 ⟨rfl, hE4⟩
              have HE4 := Lib.hid hE4
              obtain ⟨b4, off4, rfl, hcell⟩ := (HAT w4 hE4).out
              rw [Nat.add_zero] at hcell
              clear hE4 HP HAT
              go_wp2_with fail
              go_roundw
              case rel => exact ⟨1, rfl, by omega, by rw [HKP.out.1], by rw [HKP.out.2], HE4⟩
              case measure => simp [intOf]; omega
            · have h0' : (0 : Int) < (j : Int) := by omega
              rcases HOD.out h0 with h1 | ⟨h1, h2⟩
              · have y1 : decide (xk < pk) = false := decide_eq_false (by omega)
                have y2 : (xk == pk) = false := by simp; omega
                go_wp2_with fail
                refine HP.out.mono ?_
                rintro e w4 ⟨rfl, hE4⟩
                have HE4 := Lib.hid hE4
                obtain ⟨b4, off4, rfl, hcell⟩ := (HAT w4 hE4).out
                clear hE4 HP HAT
                go_wp2_with fail
                go_roundw
                case rel => exact ⟨j + 1, by go_num, by omega, by rw [HKP.out.1], by rw [HKP.out.2], HE4⟩
                case measure => simp [intOf]; omega
              · subst h1
                have y3 : decide (xi ≤ pi) = false := decide_eq_false (by omega)
                clear h2 HOD
                go_wp2_with fail
                refine HP.out.mono ?_
                rintro e w4 ⟨rfl, hE4⟩
                have HE4 := Lib.hid hE4
                obtain ⟨b4, off4, rfl, hcell⟩ := (HAT w4 hE4).out
                clear hE4 HP HAT
                go_wp2_with fail
                go_roundw
                case rel => exact ⟨j + 1, by go_num, by omega, by rw [HKP.out.1], by rw [HKP.out.2], HE4⟩
                case measure => simp [intOf]; omega
          · obtain rfl : j = R.length := by omega
            have HP := Lib.hid (show Calls Try.prog 9 #[.pointer (some ⟨w.heap.size, 0, none⟩)] wr (fun e w' => e = .returned (.tuple #[.int .i64 0, .int .i64 0, .bool false]) ∧ wr = w') from by
              obtain ⟨⟨S, h1, _⟩, _⟩ := HEj.out
              rw [List.drop_of_length_le (by have := HLQ.out; omega)] at h1
              exact pop_none_I h1)
            have HSU := Lib.hid (sure_any wr)
            clear hlj
            go_wp2_with fail
            refine HP.out.mono ?_
            rintro e w4 ⟨rfl, rfl⟩
            go_wp2_with fail
            refine HSU.out.mono ?_
            rintro e w4 ⟨rfl, hb⟩
            have HB := Lib.hid (bnext HEj.out.2 hb)
            clear hb
            go_wp2_with fail
            go_ret
            exact ⟨rfl, HB.out⟩
    · have hg3 : decide (k < l.length) = false := decide_eq_false hlt
      clear hlt
      obtain ⟨Q, hQ, hs⟩ := sorted_has R
      have hlq := hQ.length_eq
      have HA := Lib.hid (show Calls Try.prog 7 #[.pointer (some ⟨w.heap.size, 0, none⟩)] wr (fun e w' => ∃ p2 cap2, e = .returned (.slice p2 R.length cap2) ∧ Empt w w.heap.size Q (.slice p2 R.length cap2) 0 w') from by
        obtain ⟨⟨S, h1⟩, h2⟩ := HF.out
        refine (all_I h1 Q hQ hs).mono fun e w' ⟨v2, he, hown, hb⟩ => ?_
        obtain ⟨p2, cap2, rfl⟩ := own_shape hown (by simp [ints])
        refine ⟨p2, cap2, by rw [he, hlq], ⟨S, ?_, ?_⟩, bnext h2 hb⟩
        · rw [List.drop_zero]; exact (h1.below hb).perm hQ.symm
        · rw [← hlq]
          exact Lst.of_own hown (by simp [ints]) (by omega) (fun b hb1 hb2 hS => by have := h1.lt b hS; omega))
      have HQS := Lib.hid hs
      have HLQ := Lib.hid hlq
      have HRN := Lib.hid (show ∀ i j, i < j → ∀ (h : j < Q.length), ahB kc_I (at' Q i) (at' Q j) = true from by
        obtain ⟨⟨S, h1⟩, _⟩ := HF.out
        have hnd := (h1.perm hQ.symm).nodup
        intro i j hij hj
        rw [at_get (by omega), at_get hj]
        refine ord_I.lt_of_le_ne (List.pairwise_iff_getElem.1 hs i j (by omega) hj hij) fun e => ?_
        have := List.pairwise_iff_getElem.1 hnd i j (by simpa using Nat.lt_trans hij hj) (by simpa using hj) hij
        simp [e] at this)
      have hR3 : R.length ≤ 300 := by omega
      clear hQ hs hlq HF hRk hk3 hkl
      go_wp2_with fail
      refine HA.out.mono ?_
      rintro e w2 ⟨p2, cap2, rfl, hE⟩
      have HE := Lib.hid hE
      have HLN := Lib.hid (show Calls Try.prog 8 #[.pointer (some ⟨w.heap.size, 0, none⟩)] w2 (fun e w' => e = .returned (.int .i64 R.length) ∧ w2 = w') from by
        obtain ⟨⟨S, h1, _⟩, _⟩ := hE
        rw [List.drop_zero] at h1
        have := len_I h1
        rwa [HLQ.out] at this)
      clear hE HA
      go_wp2_with fail
      refine HLN.out.mono ?_
      rintro e w3 ⟨rfl, rfl⟩
      go_wp2_with fail
      go_loopw [9, 7, 8] (fun iv lv gv wr => ∃ j : Nat, iv = .int .i64 j ∧ j ≤ R.length ∧ lv = .int .i64 (prevK Q j) ∧ gv = .int .i64 (prevI Q j) ∧ Hid (Empt w w.heap.size Q (.slice p2 R.length cap2) j wr)) (fun iv _ _ _ => R.length - (intOf iv).toNat)
      case atStart => exact ⟨0, rfl, Nat.zero_le _, rfl, rfl, HE⟩
      case round =>
        obtain ⟨j, rfl, hj, rfl, rfl, HEj⟩ := hrel
        clear HE HLN
        by_cases hlj : j < R.length
        · have hjq : j < Q.length := by have := HLQ.out; omega
          have hlj' : (j : Int) < (R.length : Int) := by omega
          have hd : Q.drop j = Q[j] :: Q.drop (j + 1) := List.drop_eq_getElem_cons hjq
          obtain ⟨x, hx⟩ : ∃ x, x = Q[j] := ⟨_, rfl⟩
          have HX := Lib.hid hx
          have HP := Lib.hid (show Calls Try.prog 9 #[.pointer (some ⟨w.heap.size, 0, none⟩)] wr (fun e w' => e = .returned (.tuple #[.int .i64 x.1, .int .i64 x.2, .bool true]) ∧ Empt w w.heap.size Q (.slice p2 R.length cap2) (j + 1) w') from by
            obtain ⟨⟨S, h1, h3⟩, h2⟩ := HEj.out
            rw [hd, ← hx] at h1
            have hsd : (x :: Q.drop (j + 1)).Pairwise (le (ahB kc_I)) := by rw [hx, ← hd]; exact HQS.out.drop
            exact (pop_I h1 x (Q.drop (j + 1)) (sorted_mn cmp_I hsd) (List.Perm.refl _)).mono fun e w' ⟨he, hg⟩ => ⟨he, ⟨S, hg.1, h3.keeps hg.2⟩, h2.trans (h1.under h2.size hg.2)⟩)
          have HKP := Lib.hid (show prevK Q (j + 1) = x.2 ∧ prevI Q (j + 1) = x.1 from by
            unfold prevK prevI
            rw [if_neg (by omega), if_neg (by omega), show j + 1 - 1 = j from rfl, at_get hjq, hx]
            exact ⟨rfl, rfl⟩)
          have HOD := Lib.hid (show 0 < j → prevK Q j < x.2 ∨ prevK Q j = x.2 ∧ prevI Q j < x.1 from fun h0 => by
            have := ah_iff.1 (HRN.out (j - 1) j (by omega) hjq)
            unfold prevK prevI
            rw [if_neg (by omega), if_neg (by omega)]
            rw [at_get hjq, ← hx] at this
            exact this)
          have HAT := fun (w' : World) (h : Empt w w.heap.size Q (.slice p2 R.length cap2) (j + 1) w') => Lib.hid (show ∃ b off, p2 = some ⟨b, off, none⟩ ∧ w'.cell? ⟨b, off + j, none⟩ = some (.int .i64 x.1) from by
            obtain ⟨⟨S, _, h3⟩, _⟩ := h
            obtain ⟨p, c, e, _, hc⟩ := h3
            injection e with e _ _
            obtain ⟨b, off, e2, _, hcell⟩ := hc j (.int .i64 x.1) (by simp [ints, hjq, hx])
            exact ⟨b, off, e.trans e2, hcell⟩)
          obtain ⟨xi, xk⟩ := x
          obtain ⟨pk, hpk⟩ : ∃ z, z = prevK Q j := ⟨_, rfl⟩
          obtain ⟨pi, hpi⟩ : ∃ z, z = prevI Q j := ⟨_, rfl⟩
          rw [← hpk, ← hpi] at HOD ⊢
          clear hd hx hpk hpi
          rcases Nat.eq_zero_or_pos j with h0 | h0
          · subst h0
            have z0 : decide ((0 : Int) < 0) = false := rfl
            go_wp2_with fail
            refine HP.out.mono ?_
            rintro e w4 ⟨rfl, hE4⟩
            have HE4 := Lib.hid hE4
            obtain ⟨b4, off4, rfl, hcell⟩ := (HAT w4 hE4).out
            rw [Nat.add_zero] at hcell
            clear hE4 HP HAT
            go_wp2_with fail
            go_roundw
            case rel => exact ⟨1, rfl, by omega, by rw [HKP.out.1], by rw [HKP.out.2], HE4⟩
            case measure => simp [intOf]; omega
          · have h0' : (0 : Int) < (j : Int) := by omega
            rcases HOD.out h0 with h1 | ⟨h1, h2⟩
            · have y1 : decide (xk < pk) = false := decide_eq_false (by omega)
              have y2 : (xk == pk) = false := by simp; omega
              go_wp2_with fail
              refine HP.out.mono ?_
              rintro e w4 ⟨rfl, hE4⟩
              have HE4 := Lib.hid hE4
              obtain ⟨b4, off4, rfl, hcell⟩ := (HAT w4 hE4).out
              clear hE4 HP HAT
              go_wp2_with fail
              go_roundw
              case rel => exact ⟨j + 1, by go_num, by omega, by rw [HKP.out.1], by rw [HKP.out.2], HE4⟩
              case measure => simp [intOf]; omega
            · subst h1
              have y3 : decide (xi ≤ pi) = false := decide_eq_false (by omega)
              clear h2 HOD
              go_wp2_with fail
              refine HP.out.mono ?_
              rintro e w4 ⟨rfl, hE4⟩
              have HE4 := Lib.hid hE4
              obtain ⟨b4, off4, rfl, hcell⟩ := (HAT w4 hE4).out
              clear hE4 HP HAT
              go_wp2_with fail
              go_roundw
              case rel => exact ⟨j + 1, by go_num, by omega, by rw [HKP.out.1], by rw [HKP.out.2], HE4⟩
              case measure => simp [intOf]; omega
        · obtain rfl : j = R.length := by omega
          have HP := Lib.hid (show Calls Try.prog 9 #[.pointer (some ⟨w.heap.size, 0, none⟩)] wr (fun e w' => e = .returned (.tuple #[.int .i64 0, .int .i64 0, .bool false]) ∧ wr = w') from by
            obtain ⟨⟨S, h1, _⟩, _⟩ := HEj.out
            rw [List.drop_of_length_le (by have := HLQ.out; omega)] at h1
            exact pop_none_I h1)
          have HSU := Lib.hid (sure_any wr)
          clear hlj
          go_wp2_with fail
          refine HP.out.mono ?_
          rintro e w4 ⟨rfl, rfl⟩
          go_wp2_with fail
          refine HSU.out.mono ?_
          rintro e w4 ⟨rfl, hb⟩
          have HB := Lib.hid (bnext HEj.out.2 hb)
          clear hb
          go_wp2_with fail
          go_ret
          exact ⟨rfl, HB.out⟩
end Go.Proofs.Ytodcnlmodoahjaa
