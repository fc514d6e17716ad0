/- The program's sum, Sum, Free, Room, Twin; no condition but those that each row names. -/
import Derived.Test.YtilbohjkkdkdiaaGFx
namespace Go.Proofs.Ytilbohjkkdkdiaa
open Go.RowKit

set_option maxHeartbeats 1000000 in
theorem sum_any (f : Nat → Cl) (w : World) (hS : Small f) : Calls Try.prog 43 #[.agg (arr f)] w fun e w' => e = .returned (.int .i64 (sumTo f 64)) ∧ Below w.heap.size w w' := by
  have HS := Lib.hid fun k (hk : k < 64) => hS k hk
  have HT := Lib.hid fun k hk => sumTo_small hS k hk
  have HN := Lib.hid (BK.new AT w f)
  clear hS
  go_enter Try.func43, Try.ntmps43
  go_wp2_with (first | (refine wpList_box_arr rfl _ _ rfl f rfl ?_) | (refine wpList_load_arr rfl _ rfl w.heap.size rfl AT f HN.out ?_))
  go_loopw [3, 7] (fun u i wr => ∃ k : Nat, k ≤ 64 ∧ i = .int .i64 k ∧ u = .int .i64 (sumTo f k) ∧ Below w.heap.size w wr) (fun _ i _ => 64 - (intOf i).toNat)
  case atStart => exact ⟨0, by omega, rfl, rfl, (by repeat (first | exact Below.refl _ _ | (with_reducible assumption) | refine Below.drew ?_ | (refine Below.alloc ?_ (by first | exact Nat.le_refl _ | omega | (simp; done) | (simp; omega)) _) | (refine Below.setCell ?_ (by first | omega | (simp; done) | (simp; omega)) _)))⟩
  case round =>
    obtain ⟨k, hk, rfl, rfl, hbw⟩ := hrel
    have HBW := Lib.hid hbw
    clear hbw
    by_cases hlt : k < 64
    · have hlt' : (k : Int) < 64 := by omega
      obtain ⟨a0, a1⟩ := HT.out k hk
      obtain ⟨b0, b1⟩ := HS.out k hlt
      have hz := HBW.out.size
      have HE := Lib.hid (show sumTo f (k + 1) = sumTo f k + max (f k).n (f k).x from rfl)
      have b0' : 0 ≤ max (f k).n (f k).x := b0
      have b1' : max (f k).n (f k).x ≤ 1048576 := b1
      generalize hs : sumTo f k = s at *
      generalize hs2 : sumTo f (k + 1) = s2 at *
      have HE' := Lib.hid hs2.symm
      clear hs2
      have HF := Lib.hid hs
      clear b0 b1 hs
      go_wp2_with (refine wpList_index_arr rfl _ _ rfl f rfl k rfl hlt ?_)
      go_roundw
      case rel => exact ⟨k + 1, by omega, by go_num, by rw [← HE'.out, HE.out], by have hbw := HBW.out; exact (by repeat (first | exact Below.refl _ _ | (with_reducible assumption) | refine Below.drew ?_ | (refine Below.alloc ?_ (by first | exact Nat.le_refl _ | omega | (simp; done) | (simp; omega)) _) | (refine Below.setCell ?_ (by first | omega | (simp; done) | (simp; omega)) _)))⟩
      case measure => simp [intOf]; omega
    · obtain rfl : k = 64 := by omega
      go_wp2_with fail
      go_ret
      exact ⟨rfl, HBW.out⟩
/-- Sum, Free. -/
theorem sum_nil (w : World) : Calls Try.prog 23 #[.pointer none] w fun e w' => e = .returned (.int .i64 0) ∧ Below w.heap.size w w' := by
  go_enter Try.func23, Try.ntmps23
  go_wp2
  go_ret
  exact ⟨rfl, Below.refl _ _⟩
theorem sum_book (b : Nat) (f : Nat → Cl) (w : World) (hb : BK BT w b f) (hS : Small f) : Calls Try.prog 23 #[.pointer (some ⟨b, 0, none⟩)] w fun e w' => e = .returned (.int .i64 (sumTo f 64)) ∧ Below w.heap.size w w' := by
  have HB := Lib.hid hb
  have HS := Lib.hid fun w => sum_any f w hS
  clear hb hS
  go_enter Try.func23, Try.ntmps23
  go_wp2_with (refine wpList_load_arr rfl _ rfl b rfl BT f HB.out ?_)
  refine (HS.out _).mono ?_
  rintro e w1 ⟨rfl, hb1⟩
  have HB1 := Lib.hid hb1
  clear hb1
  go_wp2_with fail
  go_ret
  exact ⟨rfl, HB1.out⟩
theorem free_nil (w : World) : Calls Try.prog 24 #[.pointer none] w fun e w' => e = .returned (.int .i64 0) ∧ Below w.heap.size w w' := by
  go_enter Try.func24, Try.ntmps24
  go_wp2
  go_ret
  exact ⟨rfl, Below.refl _ _⟩
theorem free_book (b : Nat) (f : Nat → Cl) (w : World) (hb : BK BT w b f) (hS : Small f) : Calls Try.prog 24 #[.pointer (some ⟨b, 0, none⟩)] w fun e w' => e = .returned (.int .i64 (1048576 - sumTo f 64)) ∧ Below w.heap.size w w' := by
  have HS := Lib.hid (sum_book b f w hb hS)
  obtain ⟨a0, a1⟩ := sumTo_small hS 64 (by omega)
  clear hb hS
  generalize sumTo f 64 = s at *
  go_enter Try.func24, Try.ntmps24
  go_wp2_with fail
  refine HS.out.mono ?_
  rintro e w1 ⟨rfl, hb1⟩
  have HB1 := Lib.hid hb1
  clear hb1
  go_wp2_with fail
  go_ret
  exact ⟨rfl, HB1.out⟩
/-- What Room tells. -/
def roomV (u p : Int) : Int := if 1 ≤ p ∧ p ≤ 1048576 then u * p / 1048576 else 0
theorem room_of (b : Value) (u p : Int) (w : World) (h0 : 0 ≤ u) (h1 : u ≤ 1048576) (h : Calls Try.prog 24 #[b] w fun e w' => e = .returned (.int .i64 u) ∧ Below w.heap.size w w') :
    Calls Try.prog 25 #[b, .int .i64 p] w fun e w' => e = .returned (.int .i64 (roomV u p)) ∧ Below w.heap.size w w' := by
  have H := Lib.hid h
  clear h
  by_cases hp : 1 ≤ p ∧ p ≤ 1048576
  · have HE := Lib.hid (show roomV u p = u * p / 1048576 from if_pos hp)
    have HM := Lib.hid fun w => most_yes u p w h0 h1 hp.1 hp.2
    clear hp
    go_enter Try.func25, Try.ntmps25
    go_wp2_with fail
    refine H.out.mono ?_
    rintro e w1 ⟨rfl, hb1⟩
    have HB1 := Lib.hid hb1
    clear hb1
    go_wp2_with fail
    refine (HM.out _).mono ?_
    rintro e w2 ⟨rfl, rfl⟩
    go_wp2_with fail
    go_ret
    exact ⟨ret_int HE.out.symm, HB1.out⟩
  · have HE := Lib.hid (show roomV u p = 0 from if_neg hp)
    have HM := Lib.hid fun w => most_no u p w h0 h1 (by omega)
    clear hp
    go_enter Try.func25, Try.ntmps25
    go_wp2_with fail
    refine H.out.mono ?_
    rintro e w1 ⟨rfl, hb1⟩
    have HB1 := Lib.hid hb1
    clear hb1
    go_wp2_with fail
    refine (HM.out _).mono ?_
    rintro e w2 ⟨rfl, rfl⟩
    go_wp2_with fail
    go_ret
    exact ⟨ret_int HE.out.symm, HB1.out⟩
theorem room_book (b : Nat) (f : Nat → Cl) (p : Int) (w : World) (hb : BK BT w b f) (hG : Good f) : Calls Try.prog 25 #[.pointer (some ⟨b, 0, none⟩), .int .i64 p] w fun e w' => e = .returned (.int .i64 (roomV (1048576 - sumTo f 64) p)) ∧ Below w.heap.size w w' :=
  room_of _ _ p w (by have := hG.sum; omega) (by have := hG.pos; omega) (free_book b f w hb hG.small)
theorem room_nil (p : Int) (w : World) : Calls Try.prog 25 #[.pointer none, .int .i64 p] w fun e w' => e = .returned (.int .i64 0) ∧ Below w.heap.size w w' := by
  have := room_of (.pointer none) 0 p w (by omega) (by omega) (free_nil w)
  have e : roomV 0 p = 0 := by unfold roomV; split <;> simp
  rwa [e] at this

/-- Twin. -/
theorem twin_nil (w : World) : Calls Try.prog 26 #[.pointer none] w fun e w' => e = .returned (.pointer none) ∧ Below w.heap.size w w' := by
  go_enter Try.func26, Try.ntmps26
  go_wp2
  go_ret
  exact ⟨rfl, Below.refl _ _⟩
theorem twin_book (b : Nat) (f : Nat → Cl) (w : World) (hb : BK BT w b f) : Calls Try.prog 26 #[.pointer (some ⟨b, 0, none⟩)] w fun e w' => e = .returned (.pointer (some ⟨w.heap.size, 0, none⟩)) ∧ BK BT w' w.heap.size f ∧ Below w.heap.size w w' := by
  have HB := Lib.hid hb
  have HN := Lib.hid (BK.new BT w (fun _ => zc))
  clear hb
  go_enter Try.func26, Try.ntmps26
  go_wp2_with (first | (refine wpList_load_book rfl _ rfl b rfl BT f HB.out ?_) | (refine wpList_alloc_book rfl rfl ?_) | (refine wpList_store_book rfl _ _ rfl w.heap.size f rfl rfl BT (fun _ => zc) HN.out ?_))
  go_ret
  refine ⟨rfl, HN.out.row, ?_⟩
  exact ⟨rfl, rfl, rfl, by simp, fun i hi => (setRow_other _ _ _ _ (by omega)).trans (Below.heap_alloc _ _ _ hi)⟩
end Go.Proofs.Ytilbohjkkdkdiaa
