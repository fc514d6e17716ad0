/- The program's List; no condition but those that each row names. -/
import Derived.Test.YtilbohjkkdkdiaaGOf
import Derived.Test.YtilbohjkkdkdiaaGCls
namespace Go.Proofs.Ytilbohjkkdkdiaa
open Go.RowKit

set_option maxHeartbeats 2000000 in
/-- Of a nil Book: nothing. -/
theorem list_nil (w : World) : Calls Try.prog 17 #[.pointer none] w fun e w' => e = .returned (.slice none 0 0) ∧ Below w.heap.size w w' := by
  have HO := Lib.hid fun s w => of_nil s w
  go_enter Try.func17, Try.ntmps17
  go_wp2_with fail
  go_loopw [3, 7] (fun u i wr => ∃ k : Nat, k ≤ 64 ∧ i = .int .i64 k ∧ u = .slice none 0 0 ∧ Below w.heap.size w wr) (fun _ i _ => 64 - (intOf i).toNat)
  case atStart => exact ⟨0, by omega, rfl, rfl, Below.refl _ _⟩
  case round =>
    obtain ⟨k, hk, rfl, rfl, hbw⟩ := hrel
    have HBW := Lib.hid hbw
    clear hbw
    by_cases hlt : k < 64
    · have hlt' : (k : Int) < 64 := by omega
      go_wp2_with fail
      refine (HO.out _ _).mono ?_
      rintro e w2 ⟨rfl, hb2⟩
      have HB2 := Lib.hid (bnext HBW.out hb2)
      clear hb2
      go_wp2_with fail
      go_roundw
      case rel => exact ⟨k + 1, by omega, by go_num, rfl, by have hbw := HB2.out; have hz := hbw.size; exact (by repeat (first | exact Below.refl _ _ | (with_reducible assumption) | refine Below.drew ?_ | (refine Below.alloc ?_ (by first | exact Nat.le_refl _ | omega | (simp; done) | (simp; omega)) _) | (refine Below.setCell ?_ (by first | omega | (simp; done) | (simp; omega)) _)))⟩
      case measure => simp [intOf]; omega
    · obtain rfl : k = 64 := by omega
      go_wp2_with fail
      go_ret
      exact ⟨rfl, HBW.out⟩
/-- What List answers: a list of its own. -/
def Listed (w : World) (L : List Cl) (e : Ending) (w' : World) : Prop := ∃ v, e = .returned v ∧ w'.ownsRow w.heap.size PT 4 v L.length (cells4 L) ∧ Below w.heap.size w w'
set_option maxHeartbeats 4000000 in
theorem list_any (b : Nat) (f : Nat → Cl) (w : World) (hb : BK BT w b f) (hG : Good f) :
    Calls Try.prog 17 #[.pointer (some ⟨b, 0, none⟩)] w (Listed w (lst f 0 64)) := by
  have HB := Lib.hid hb
  have HY := Lib.hid fun k w => of_there b f k w
  have HN := Lib.hid fun k w => of_gone b f k w
  have HG := Lib.hid hG
  clear hb hG
  go_enter Try.func17, Try.ntmps17
  go_wp2_with fail
  go_loopw [3, 7] (fun u i wr => ∃ k : Nat, k ≤ 64 ∧ i = .int .i64 k ∧ wr.ownsRow w.heap.size PT 4 u (lst f 0 k).length (cells4 (lst f 0 k)) ∧ Below w.heap.size w wr) (fun _ i _ => 64 - (intOf i).toNat)
  case atStart => exact ⟨0, by omega, rfl, World.ownsRow_nil _ _ _ _, Below.refl _ _⟩
  case round =>
    obtain ⟨k, hk, rfl, hown, hbw⟩ := hrel
    have HBW := Lib.hid hbw
    have HOW := Lib.hid hown
    obtain ⟨p, cap, rfl, _⟩ := own_small hown
    have hll := lst_len f 0 k
    clear hbw hown
    by_cases hlt : k < 64
    · have hlt' : (k : Int) < 64 := by omega
      by_cases hn : 1 ≤ (f k).n
      · have HL := Lib.hid (show lst f 0 (k + 1) = lst f 0 k ++ [f k] from by simp only [lst, one, if_pos hn, Nat.zero_add])
        have HC := Lib.hid (show cells4 (lst f 0 k) ++ [.int .i64 (f k).s, .int .i64 (f k).n, .int .i64 (f k).x, .bool (f k).d] = cells4 (lst f 0 k ++ [f k]) from by rw [cells4_append]; rfl)
        have HO := Lib.hid (HY.out k wr hlt (HB.out.below HBW.out) hn)
        clear hn
        go_wp2_with fail
        refine HO.out.mono ?_
        rintro e w2 ⟨rfl, hb2⟩
        have HO2 := Lib.hid (own_under HOW.out hb2)
        have HB2 := Lib.hid (bnext HBW.out hb2)
        have hz2 := HB2.out.size
        clear hb2
        go_wp2_with (at_builtin; refine wpList_append_P rfl _ _ rfl w.heap.size (.slice p (lst f 0 k).length cap) (lst f 0 k).length (cells4 (lst f 0 k)) rfl ((HO2.out.kept (World.grownBy_alloc _ _ none) (Classical.em _)).kept (World.grownBy_alloc _ _ none) (Classical.em _)) _ 1 [.int .i64 (f k).s, .int .i64 (f k).n, .int .i64 (f k).x, .bool (f k).d] rfl (src_two w2 _ _ _ _ _ _) (one_cells _ _ _ _) (by omega) (by simp; omega) ?_)
        intro p1 c1 w3 ho hg ha
        have hb3 : Below w.heap.size w w3 := ((HB2.out.alloc hz2 _).alloc (by simp; omega) _).grown hg (by simp; omega) (fun g e => by
          rcases HOW.out.2 with ⟨h1, _⟩ | ⟨g', c', cu, h1, h2, _⟩
          · rw [h1] at e; simp [Value.ownBlock] at e
          · rw [h1] at e; simp [Value.ownBlock] at e; omega)
        have ho' : w3.ownsRow w.heap.size PT 4 (.slice p1 ((lst f 0 k).length + 1) c1) (lst f 0 (k + 1)).length (cells4 (lst f 0 (k + 1))) := by
          rw [HL.out, ← HC.out, List.length_append]; exact ho
        have HO3 := Lib.hid ho'
        have HB3 := Lib.hid hb3
        clear ho hg ha ho' hb3
        go_wp2_with fail
        go_roundw
        case rel => exact ⟨k + 1, by omega, by go_num, HO3.out, HB3.out⟩
        case measure => simp [intOf]; omega
      · have HL := Lib.hid (show lst f 0 (k + 1) = lst f 0 k from by simp only [lst, one, if_neg hn, Nat.zero_add, List.append_nil])
        have HO := Lib.hid (HN.out k wr hlt (HB.out.below HBW.out) (HG.out.gone hlt hn))
        clear hn
        go_wp2_with fail
        refine HO.out.mono ?_
        rintro e w2 ⟨rfl, hb2⟩
        have HO2 := Lib.hid (own_under HOW.out hb2)
        have HB2 := Lib.hid (bnext HBW.out hb2)
        have hz2 := HB2.out.size
        clear hb2
        go_wp2_with fail
        go_roundw
        case rel => exact ⟨k + 1, by omega, by go_num, by rw [HL.out]; exact HO2.out.kept (World.grownBy_alloc _ _ none) (Classical.em _), HB2.out.alloc hz2 _⟩
        case measure => simp [intOf]; omega
    · obtain rfl : k = 64 := by omega
      go_wp2_with fail
      go_ret
      exact ⟨_, rfl, HOW.out, HBW.out⟩
end Go.Proofs.Ytilbohjkkdkdiaa
