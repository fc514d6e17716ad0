/- Loops that only read: the program's count and mayStand, the document's Slots, the law's handles; no condition but those that each row names. -/
import Derived.Test.YtmmbopaieffgeaaDoorSHand
import Derived.Test.YtmmbopaieffgeaaDoorSLoad
import Derived.Deep.QuietTactic
import Derived.BigQuiet
namespace Go.Proofs.YtmmbopaieffgeaaDoor
open Go.RowKit

set_option maxHeartbeats 1000000 in
theorem count_any (S : Nat → Prop) (l : List Bool) (v : Value) (w : World) (h : Lst S w v (bools l)) :
    Calls Tryd.prog 36 #[v] w fun e w' => e = .returned (.int .i64 (rank l l.length : Nat)) ∧ w = w' := by
  obtain ⟨p, cp, rfl, hm, hg⟩ := h
  have e1 := bools_len l
  rw [e1] at hm ⊢
  have HG := Lib.hid hg
  have E1 := Lib.hid e1
  clear hg e1
  go_enter Tryd.func36, Tryd.ntmps36
  go_wp2_with fail
  go_loop [3, 8] (fun n i => ∃ k : Nat, k ≤ l.length ∧ i = .int .i64 k ∧ n = .int .i64 (rank l k : Nat)) (fun _ i => l.length - (intOf i).toNat)
  case atStart => exact ⟨0, Nat.zero_le _, rfl, rfl⟩
  case round =>
    obtain ⟨k, hk, rfl, rfl⟩ := hrel
    by_cases hlt : k < l.length
    · obtain ⟨b, off, rfl, _, hc⟩ := HG.out k _ (bools_at hlt)
      have hr := rank_le l k
      have HS := Lib.hid (rank_succ l k)
      generalize rank l k = r at *
      generalize l.getD k false = t at *
      cases t with
      | true =>
        go_wp2_with fail
        go_round
        case rel => exact ⟨k + 1, by omega, by go_num, by rw [HS.out]; go_num⟩
        case measure => simp [intOf]; omega
      | false =>
        go_wp2_with fail
        go_round
        case rel => exact ⟨k + 1, by omega, by go_num, by rw [HS.out]; rfl⟩
        case measure => simp [intOf]; omega
    · have hk' : k = l.length := by omega
      have HE := Lib.hid (congrArg (rank l) hk')
      clear hk'
      go_wp2_with fail
      go_ret
      exact ⟨ret_int (congrArg Nat.cast HE.out), rfl⟩

/-- May all slots be so? -/
def standB (gens : List Int) (taken : List Bool) (k : Nat) : Prop := ∀ i, i < k → okG gens taken i
theorem stand_succ {gens : List Int} {taken : List Bool} {k : Nat} (h : standB gens taken k) (h2 : okG gens taken k) : standB gens taken (k + 1) := fun i hi => by
  by_cases e : i = k
  · subst e; exact h2
  · exact h i (by omega)

set_option maxHeartbeats 1000000 in
theorem stand_yes (S : Nat → Prop) (gens : List Int) (taken : List Bool) (v x : Value) (w : World) (h : Lst S w v (ints gens)) (g : Lst S w x (bools taken)) (hl : taken.length = gens.length) (ho : standB gens taken gens.length) :
    Calls Tryd.prog 35 #[v, x] w fun e w' => e = .returned (.bool true) ∧ w = w' := by
  obtain ⟨p, cp, rfl, hm, hg⟩ := h
  obtain ⟨q, cq, rfl, _, ht⟩ := g
  have e1 := ints_len gens
  have e2 := bools_len taken
  rw [e1] at hm ⊢
  rw [e2, hl]
  have HG := Lib.hid hg
  have HT := Lib.hid ht
  have HO := Lib.hid ho
  have HL := Lib.hid hl
  clear hg ht e1 e2 ho hl
  go_enter Tryd.func35, Tryd.ntmps35
  go_wp2_with fail
  go_loop [15] (fun i => ∃ k : Nat, k ≤ gens.length ∧ i = .int .i64 k) (fun i => gens.length - (intOf i).toNat)
  case atStart => exact ⟨0, Nat.zero_le _, rfl⟩
  case round =>
    obtain ⟨k, hk, rfl⟩ := hrel
    by_cases hlt : k < gens.length
    · obtain ⟨b, off, rfl, _, hc⟩ := HG.out k _ (ints_at hlt)
      obtain ⟨b2, off2, rfl, _, hc2⟩ := HT.out k _ (bools_at (by rw [HL.out]; exact hlt))
      have hok := HO.out k hlt
      unfold okG at hok
      generalize gens.getD k 0 = z at *
      generalize taken.getD k false = t at *
      cases t with
      | true =>
        obtain ⟨h1, h2⟩ := hok
        rw [if_pos rfl] at h2
        go_wp2_with fail
        go_round
        case rel => exact ⟨k + 1, by omega, by go_num⟩
        case measure => simp [intOf]; omega
      | false =>
        obtain ⟨h1, h2⟩ := hok
        rw [if_neg (by simp)] at h2
        go_wp2_with fail
        go_round
        case rel => exact ⟨k + 1, by omega, by go_num⟩
        case measure => simp [intOf]; omega
    · go_wp2_with fail
      go_ret
      exact ⟨rfl, rfl⟩

set_option maxHeartbeats 1000000 in
theorem stand_no (S : Nat → Prop) (gens : List Int) (taken : List Bool) (v x : Value) (w : World) (h : Lst S w v (ints gens)) (g : Lst S w x (bools taken)) (ho : ¬ (taken.length = gens.length ∧ standB gens taken gens.length)) :
    Calls Tryd.prog 35 #[v, x] w fun e w' => e = .returned (.bool false) ∧ w = w' := by
  obtain ⟨p, cp, rfl, hm, hg⟩ := h
  obtain ⟨q, cq, rfl, hm2, ht⟩ := g
  have e1 := ints_len gens
  have e2 := bools_len taken
  rw [e1] at hm ⊢
  rw [e2] at hm2 ⊢
  by_cases hl : taken.length = gens.length
  · rw [hl]
    have HG := Lib.hid hg
    have HT := Lib.hid ht
    have HO := Lib.hid (show ¬ standB gens taken gens.length from fun k => ho ⟨hl, k⟩)
    have HL := Lib.hid hl
    clear hg ht e1 e2 ho hl hm2
    go_enter Tryd.func35, Tryd.ntmps35
    go_wp2_with fail
    go_loop [15] (fun i => ∃ k : Nat, k ≤ gens.length ∧ i = .int .i64 k ∧ Hid (standB gens taken k)) (fun i => gens.length - (intOf i).toNat)
    case atStart => exact ⟨0, Nat.zero_le _, rfl, Lib.hid fun i hi => by omega⟩
    case round =>
      obtain ⟨k, hk, rfl, HS⟩ := hrel
      by_cases hlt : k < gens.length
      · obtain ⟨b, off, rfl, _, hc⟩ := HG.out k _ (ints_at hlt)
        obtain ⟨b2, off2, rfl, _, hc2⟩ := HT.out k _ (bools_at (by rw [HL.out]; exact hlt))
        by_cases hok : okG gens taken k
        · have HS2 := Lib.hid (stand_succ HS.out hok)
          unfold okG at hok
          generalize gens.getD k 0 = z at *
          generalize taken.getD k false = t at *
          cases t with
          | true =>
            obtain ⟨h1, h2⟩ := hok
            rw [if_pos rfl] at h2
            go_wp2_with fail
            go_round
            case rel => exact ⟨k + 1, by omega, by go_num, HS2⟩
            case measure => simp [intOf]; omega
          | false =>
            obtain ⟨h1, h2⟩ := hok
            rw [if_neg (by simp)] at h2
            go_wp2_with fail
            go_round
            case rel => exact ⟨k + 1, by omega, by go_num, HS2⟩
            case measure => simp [intOf]; omega
        · unfold okG at hok
          generalize gens.getD k 0 = z at *
          generalize taken.getD k false = t at *
          by_cases hz : z < 1
          · clear hok
            cases t
            all_goals
              go_wp2_with fail
              go_ret
              exact ⟨rfl, rfl⟩
          · cases t with
            | true =>
              have h2 : 1023 < z := by simp at hok; omega
              clear hok
              go_wp2_with fail
              go_ret
              exact ⟨rfl, rfl⟩
            | false =>
              have h2 : 1024 < z := by simp at hok; omega
              clear hok
              go_wp2_with fail
              go_ret
              exact ⟨rfl, rfl⟩
      · have hk' : k = gens.length := by omega
        exact absurd (hk' ▸ HS.out) HO.out
  · have hb1 : decide (taken.length = gens.length) = false := decide_eq_false hl
    clear ho
    go_enter Tryd.func35, Tryd.ntmps35
    go_wp2_with fail
    go_ret
    exact ⟨rfl, rfl⟩
end Go.Proofs.YtmmbopaieffgeaaDoor
