/- The document's own Slots: may slots be, and how many are taken; no condition but those that each row names. -/
import Derived.Test.YtmmbopaieffgeaaDoorSPT
namespace Go.Proofs.YtmmbopaieffgeaaDoor
open Go.RowKit

set_option maxHeartbeats 1000000 in
theorem rslots_yes (S : Nat → Prop) (gens : List Int) (taken : List Bool) (v x : Value) (w : World) (h : Lst S w v (ints gens)) (g : Lst S w x (bools taken)) (hl : taken.length = gens.length) (ho : standB gens taken gens.length) :
    Calls Tryd.prog 37 #[v, x] w fun e w' => e = .returned (.tuple #[.int .i64 (rank taken gens.length : Nat), .int .i64 0]) ∧ w = w' := by
  obtain ⟨p, cp, rfl, hm, hg⟩ := h
  obtain ⟨q, cq, rfl, _, ht⟩ := g
  have e1 := ints_len gens
  have e2 := bools_len taken
  rw [e1] at hm ⊢
  rw [e2, hl]
  have HG := Lib.hid hg
  have HT := Lib.hid ht
  have HO := Lib.hid ho
  have HL := Lib.hid hl
  clear hg ht e1 e2 ho hl
  go_enter Tryd.func37, Tryd.ntmps37
  go_wp2_with fail
  go_loop [6, 7, 8] (fun n i _ => ∃ k : Nat, k ≤ gens.length ∧ i = .int .i64 k ∧ n = .int .i64 (rank taken k : Nat)) (fun _ i _ => gens.length - (intOf i).toNat)
  case atStart => exact ⟨0, Nat.zero_le _, rfl, rfl⟩
  case round =>
    obtain ⟨k, hk, rfl, rfl⟩ := hrel
    have hrk := rank_le taken k
    have HSS := Lib.hid (rank_succ taken k)
    generalize hrn : rank taken k = rn at *
    have HRN := Lib.hid hrn
    clear hrn
    by_cases hlt : k < gens.length
    · obtain ⟨b, off, rfl, _, hc⟩ := HG.out k _ (ints_at hlt)
      obtain ⟨b2, off2, rfl, _, hc2⟩ := HT.out k _ (bools_at (by rw [HL.out]; exact hlt))
      have hok := HO.out k hlt
      unfold okG at hok
      generalize gens.getD k 0 = z at *
      generalize taken.getD k false = t at *
      cases t with
      | true =>
        obtain ⟨h1, h2⟩ := hok
        rw [if_pos rfl] at h2
        go_wp2_with fail
        go_round
        case rel => exact ⟨k + 1, by omega, by go_num, by rw [HSS.out]; first | rfl | go_num⟩
        case measure => simp [intOf]; omega
      | false =>
        obtain ⟨h1, h2⟩ := hok
        rw [if_neg (by simp)] at h2
        go_wp2_with fail
        go_round
        case rel => exact ⟨k + 1, by omega, by go_num, by rw [HSS.out]; first | rfl | go_num⟩
        case measure => simp [intOf]; omega
    · have hk' : k = gens.length := by omega
      have HE := Lib.hid (show rank taken gens.length = rn by rw [← hk']; exact HRN.out)
      clear hk'
      go_wp2_with fail
      go_ret2
      exact ⟨ret_two (by rw [HE.out]) rfl, rfl⟩

set_option maxHeartbeats 1000000 in
theorem rslots_no (S : Nat → Prop) (gens : List Int) (taken : List Bool) (v x : Value) (w : World) (h : Lst S w v (ints gens)) (g : Lst S w x (bools taken)) (ho : ¬ (taken.length = gens.length ∧ standB gens taken gens.length)) :
    Calls Tryd.prog 37 #[v, x] w fun e w' => e = .returned (.tuple #[.int .i64 0, .int .i64 270]) ∧ w = w' := by
  obtain ⟨p, cp, rfl, hm, hg⟩ := h
  obtain ⟨q, cq, rfl, hm2, ht⟩ := g
  have e1 := ints_len gens
  have e2 := bools_len taken
  rw [e1] at hm ⊢
  rw [e2] at hm2 ⊢
  by_cases hl : taken.length = gens.length
  · rw [hl]
    have HG := Lib.hid hg
    have HT := Lib.hid ht
    have HO := Lib.hid (show ¬ standB gens taken gens.length from fun k => ho ⟨hl, k⟩)
    have HL := Lib.hid hl
    clear hg ht e1 e2 ho hl hm2
    go_enter Tryd.func37, Tryd.ntmps37
    go_wp2_with fail
    go_loop [6, 7, 8] (fun n i _ => ∃ k : Nat, k ≤ gens.length ∧ i = .int .i64 k ∧ Hid (standB gens taken k) ∧ ∃ m : Nat, m ≤ k ∧ n = .int .i64 m) (fun _ i _ => gens.length - (intOf i).toNat)
    case atStart => exact ⟨0, Nat.zero_le _, rfl, Lib.hid fun i hi => by omega, 0, Nat.le_refl _, rfl⟩
    case round =>
      obtain ⟨k, hk, rfl, HS, m, hm3, rfl⟩ := hrel
      by_cases hlt : k < gens.length
      · obtain ⟨b, off, rfl, _, hc⟩ := HG.out k _ (ints_at hlt)
        obtain ⟨b2, off2, rfl, _, hc2⟩ := HT.out k _ (bools_at (by rw [HL.out]; exact hlt))
        by_cases hok : okG gens taken k
        · have HS2 := Lib.hid (stand_succ HS.out hok)
          unfold okG at hok
          generalize gens.getD k 0 = z at *
          generalize taken.getD k false = t at *
          cases t with
          | true =>
            obtain ⟨h1, h2⟩ := hok
            rw [if_pos rfl] at h2
            go_wp2_with fail
            go_round
            case rel => exact ⟨k + 1, by omega, by go_num, HS2, by first | exact ⟨m, by omega, rfl⟩ | exact ⟨m + 1, by omega, by go_num⟩⟩
            case measure => simp [intOf]; omega
          | false =>
            obtain ⟨h1, h2⟩ := hok
            rw [if_neg (by simp)] at h2
            go_wp2_with fail
            go_round
            case rel => exact ⟨k + 1, by omega, by go_num, HS2, by first | exact ⟨m, by omega, rfl⟩ | exact ⟨m + 1, by omega, by go_num⟩⟩
            case measure => simp [intOf]; omega
        · unfold okG at hok
          generalize gens.getD k 0 = z at *
          generalize taken.getD k false = t at *
          by_cases hz : z < 1
          · clear hok
            cases t
            all_goals
              go_wp2_with fail
              go_ret2
              exact ⟨rfl, rfl⟩
          · cases t with
            | true =>
              have h2 : 1023 < z := by simp at hok; omega
              clear hok
              go_wp2_with fail
              go_ret2
              exact ⟨rfl, rfl⟩
            | false =>
              have h2 : 1024 < z := by simp at hok; omega
              clear hok
              go_wp2_with fail
              go_ret2
              exact ⟨rfl, rfl⟩
      · have hk' : k = gens.length := by omega
        exact absurd (hk' ▸ HS.out) HO.out
  · have hb1 : decide (taken.length = gens.length) = false := decide_eq_false hl
    clear ho
    go_enter Tryd.func37, Tryd.ntmps37
    go_wp2_with fail
    go_ret2
    exact ⟨rfl, rfl⟩
end Go.Proofs.YtmmbopaieffgeaaDoor
