/- The walk of the law FixedTight: it answers true for every two reservations; it writes nothing that was there. -/
import Derived.Test.YtlhgopdlpjmbhaaText
import Derived.Test.YtlhgopdlpjmbhaaShare
import Derived.Test.YtlhgopdlpjmbhaaRef
namespace Go.Proofs.Ytlhgopdlpjmbhaa
open Go.RowKit

theorem below2 (w : World) (o o' : Obj) : Below w.heap.size w ((w.alloc o).alloc o') := ((Below.refl _ _).alloc (Nat.le_refl _) o).alloc (by simp) o'

set_option maxHeartbeats 1000000 in
set_option maxRecDepth 100000 in
theorem tight_no (q p r s : Int) (w : World) (h : ¬ okR q p) (g : okR r s) :
    Calls Try.prog 3 #[.agg #[.int .i64 q, .int .i64 p], .agg #[.int .i64 r, .int .i64 s]] w fun e w' => e = .returned (.bool true) ∧ Below w.heap.size w w' := by
  have hn : ¬ (okR q p ∧ okR r s) := fun k => h k.1
  have HN : Hid (¬ (okR q p ∧ okR r s)) := hn
  clear hn
  go_enter Try.func3, Try.ntmps3
  go_wp2_with fail
  refine (share_no q p _ h).mono ?_
  rintro e w1 ⟨rfl, hb1⟩
  obtain ⟨hc1, hf1⟩ := bcell hb1
  have hz : w.heap.size + 1 < w1.heap.size := by have := hb1.size; simp at this; omega
  have hz' : w.heap.size < w1.heap.size := by omega
  go_wp2_with fail
  refine (share_ok r s _ g).mono ?_
  rintro e w2 ⟨rfl, hb2⟩
  obtain ⟨hc2, hf2⟩ := bcell hb2
  have hy : w.heap.size + 1 < w2.heap.size := Nat.lt_of_lt_of_le hz hb2.size
  have hy' : w.heap.size < w2.heap.size := by omega
  go_wp2_with fail
  refine (compare_no q p r s _ HN.out).mono ?_
  rintro e w3 ⟨rfl, hb3⟩
  obtain ⟨hc3, hf3⟩ := bcell hb3
  go_wp2_with fail
  refine (rvalid_no q p _ h).mono ?_
  rintro e w4 ⟨rfl, hb4⟩
  go_wp2_with fail
  refine (sure_any _).mono ?_
  rintro e w5 ⟨rfl, hb5⟩
  go_wp2_with fail
  go_ret
  exact ⟨rfl, bnext (bnext (bnext (bnext (bnext (below2 _ _ _) hb1) hb2) hb3) hb4) hb5⟩

set_option maxHeartbeats 1000000 in
set_option maxRecDepth 100000 in
theorem tight_no0 (q p r s : Int) (w : World) (h : ¬ okR q p) (g : ¬ okR r s) :
    Calls Try.prog 3 #[.agg #[.int .i64 q, .int .i64 p], .agg #[.int .i64 r, .int .i64 s]] w fun e w' => e = .returned (.bool true) ∧ Below w.heap.size w w' := by
  have hn : ¬ (okR q p ∧ okR r s) := fun k => h k.1
  have HN : Hid (¬ (okR q p ∧ okR r s)) := hn
  clear hn
  go_enter Try.func3, Try.ntmps3
  go_wp2_with fail
  refine (share_no q p _ h).mono ?_
  rintro e w1 ⟨rfl, hb1⟩
  obtain ⟨hc1, hf1⟩ := bcell hb1
  have hz : w.heap.size + 1 < w1.heap.size := by have := hb1.size; simp at this; omega
  have hz' : w.heap.size < w1.heap.size := by omega
  go_wp2_with fail
  refine (share_no r s _ g).mono ?_
  rintro e w2 ⟨rfl, hb2⟩
  obtain ⟨hc2, hf2⟩ := bcell hb2
  have hy : w.heap.size + 1 < w2.heap.size := Nat.lt_of_lt_of_le hz hb2.size
  have hy' : w.heap.size < w2.heap.size := by omega
  go_wp2_with fail
  refine (compare_no q p r s _ HN.out).mono ?_
  rintro e w3 ⟨rfl, hb3⟩
  obtain ⟨hc3, hf3⟩ := bcell hb3
  go_wp2_with fail
  refine (rvalid_no q p _ h).mono ?_
  rintro e w4 ⟨rfl, hb4⟩
  go_wp2_with fail
  refine (sure_any _).mono ?_
  rintro e w5 ⟨rfl, hb5⟩
  go_wp2_with fail
  go_ret
  exact ⟨rfl, bnext (bnext (bnext (bnext (bnext (below2 _ _ _) hb1) hb2) hb3) hb4) hb5⟩

set_option maxHeartbeats 1000000 in
set_option maxRecDepth 100000 in
theorem tight_no2 (q p r s : Int) (w : World) (h : okR q p) (g : ¬ okR r s) :
    Calls Try.prog 3 #[.agg #[.int .i64 q, .int .i64 p], .agg #[.int .i64 r, .int .i64 s]] w fun e w' => e = .returned (.bool true) ∧ Below w.heap.size w w' := by
  have hn : ¬ (okR q p ∧ okR r s) := fun k => g k.2
  have HN : Hid (¬ (okR q p ∧ okR r s)) := hn
  clear hn
  go_enter Try.func3, Try.ntmps3
  go_wp2_with fail
  refine (share_ok q p _ h).mono ?_
  rintro e w1 ⟨rfl, hb1⟩
  obtain ⟨hc1, hf1⟩ := bcell hb1
  have hz : w.heap.size + 1 < w1.heap.size := by have := hb1.size; simp at this; omega
  have hz' : w.heap.size < w1.heap.size := by omega
  go_wp2_with fail
  refine (share_no r s _ g).mono ?_
  rintro e w2 ⟨rfl, hb2⟩
  obtain ⟨hc2, hf2⟩ := bcell hb2
  have hy : w.heap.size + 1 < w2.heap.size := Nat.lt_of_lt_of_le hz hb2.size
  have hy' : w.heap.size < w2.heap.size := by omega
  go_wp2_with fail
  refine (compare_no q p r s _ HN.out).mono ?_
  rintro e w3 ⟨rfl, hb3⟩
  obtain ⟨hc3, hf3⟩ := bcell hb3
  go_wp2_with fail
  refine (rvalid_ok q p _ h).mono ?_
  rintro e w4 ⟨rfl, hb4⟩
  obtain ⟨hc4, hf4⟩ := bcell hb4
  have hx : w.heap.size + 1 < w3.heap.size := Nat.lt_of_lt_of_le hy hb3.size
  have hx' : w.heap.size < w3.heap.size := by omega
  go_wp2_with fail
  refine (rvalid_no r s _ g).mono ?_
  rintro e w6 ⟨rfl, hb6⟩
  go_wp2_with fail
  refine (sure_any _).mono ?_
  rintro e w5 ⟨rfl, hb5⟩
  go_wp2_with fail
  go_ret
  exact ⟨rfl, bnext (bnext (bnext (bnext (bnext (bnext (below2 _ _ _) hb1) hb2) hb3) hb4) hb6) hb5⟩

set_option maxHeartbeats 4000000 in
set_option maxRecDepth 100000 in
theorem tight_ok (q p r s c : Int) (w : World) (h : okR q p) (g : okR r s) (HC : Hid (cmpI (q * s) (r * p) = c)) (hc : c = -1 ∨ c = 0 ∨ c = 1) :
    Calls Try.prog 3 #[.agg #[.int .i64 q, .int .i64 p], .agg #[.int .i64 r, .int .i64 s]] w fun e w' => e = .returned (.bool true) ∧ Below w.heap.size w w' := by
  obtain ⟨n1, n2, n3, n4⟩ := share_bd q p h
  obtain ⟨z1, HZ, z3⟩ := most_bd q p h
  obtain ⟨h1, h2, h3⟩ := id h
  obtain ⟨g1, g2, g3⟩ := id g
  have hmm : (c < 0 → shareOf q p ≤ shareOf r s) ∧ (0 < c → shareOf r s ≤ shareOf q p) ∧ (c = 0 → shareOf q p = shareOf r s) := by
    have HC' := HC.out
    unfold cmpI at HC'
    split at HC'
    · exact ⟨fun _ => share_mono q p r s h g (by omega), by omega, by omega⟩
    · split at HC'
      · exact ⟨by omega, fun _ => share_mono r s q p g h (by omega), by omega⟩
      · exact ⟨by omega, by omega, fun _ => Int.le_antisymm (share_mono q p r s h g (by omega)) (share_mono r s q p g h (by omega))⟩
  obtain ⟨m1, m2⟩ := mul_bd (shareOf q p) p (by omega) n2 (by omega) (by omega)
  obtain ⟨l1, l2⟩ := mul_bd (shareOf q p - 1) p (by omega) (by omega) (by omega) (by omega)
  have hm : 1 ≤ shareOf r s ∧ shareOf r s ≤ 1048576 := ⟨(share_bd r s g).1, (share_bd r s g).2.1⟩
  obtain ⟨k1, k2⟩ := hm
  have HCC := fun w => compare_ok q p r s w h g
  rw [HC.out] at HCC
  have HM := fun w => most_ok (shareOf q p) p w (by omega) n2 (by omega) h3
  have HS := fun w => share_ok (shareOf q p * p / 1048576) p w HZ
  have HS1 := fun w => share_ok q p w h
  have HS2 := fun w => share_ok r s w g
  have HV1 := fun w => rvalid_ok q p w h
  have HV2 := fun w => rvalid_ok r s w g
  clear h g HZ HC
  generalize shareOf (shareOf q p * p / 1048576) p = u at *
  generalize shareOf q p = n at *
  generalize shareOf r s = m at *
  generalize n * p / 1048576 = z at *
  have JCC := Lib.hid HCC
  have JM := Lib.hid HM
  have JS := Lib.hid HS
  have JS1 := Lib.hid HS1
  have JS2 := Lib.hid HS2
  have JV1 := Lib.hid HV1
  have JV2 := Lib.hid HV2
  clear HCC HM HS HS1 HS2 HV1 HV2
  rcases hc with rfl | rfl | rfl
  · have hle : n ≤ m := hmm.1 (by omega)
    clear hmm
    go_enter Try.func3, Try.ntmps3
    go_wp2_with fail
    refine (JS1.out _).mono ?_
    rintro e w1 ⟨rfl, hb1⟩
    obtain ⟨hc1, hf1⟩ := bcell hb1
    have y1 : w.heap.size + 1 < w1.heap.size := by have := hb1.size; simp at this; omega
    have y1' : w.heap.size < w1.heap.size := by omega
    go_wp2_with fail
    refine (JS2.out _).mono ?_
    rintro e w2 ⟨rfl, hb2⟩
    obtain ⟨hc2, hf2⟩ := bcell hb2
    have y2 : w.heap.size + 1 < w2.heap.size := Nat.lt_of_lt_of_le y1 hb2.size
    have y2' : w.heap.size < w2.heap.size := by omega
    go_wp2_with fail
    refine (JCC.out _).mono ?_
    rintro e w3 ⟨rfl, hb3⟩
    obtain ⟨hc3, hf3⟩ := bcell hb3
    have y3 : w.heap.size + 1 < w3.heap.size := Nat.lt_of_lt_of_le y2 hb3.size
    have y3' : w.heap.size < w3.heap.size := by omega
    go_wp2_with fail
    refine (JV1.out _).mono ?_
    rintro e w4 ⟨rfl, hb4⟩
    obtain ⟨hc4, hf4⟩ := bcell hb4
    have y4 : w.heap.size + 1 < w4.heap.size := Nat.lt_of_lt_of_le y3 hb4.size
    have y4' : w.heap.size < w4.heap.size := by omega
    go_wp2_with fail
    refine (JV2.out _).mono ?_
    rintro e w5 ⟨rfl, hb5⟩
    obtain ⟨hc5, hf5⟩ := bcell hb5
    have y5 : w.heap.size + 1 < w5.heap.size := Nat.lt_of_lt_of_le y4 hb5.size
    have y5' : w.heap.size < w5.heap.size := by omega
    go_wp2_with fail
    refine (JM.out _).mono ?_
    rintro e w6 ⟨rfl, hb6⟩
    obtain ⟨hc6, hf6⟩ := bcell hb6
    have y6 : w.heap.size + 1 < w6.heap.size := Nat.lt_of_lt_of_le y5 hb6.size
    have y6' : w.heap.size < w6.heap.size := by omega
    go_wp2_with fail
    refine (JS.out _).mono ?_
    rintro e w7 ⟨rfl, hb7⟩
    obtain ⟨hc7, hf7⟩ := bcell hb7
    have y7 : w.heap.size + 1 < w7.heap.size := Nat.lt_of_lt_of_le y6 hb7.size
    have y7' : w.heap.size < w7.heap.size := by omega
    go_wp2_with fail
    refine (sure_any _).mono ?_
    rintro e w8 ⟨rfl, hb8⟩
    go_wp2_with fail
    go_ret
    exact ⟨rfl, bnext (bnext (bnext (bnext (bnext (bnext (bnext (bnext (below2 _ _ _) hb1) hb2) hb3) hb4) hb5) hb6) hb7) hb8⟩
  · obtain rfl : n = m := hmm.2.2 rfl
    clear hmm
    go_enter Try.func3, Try.ntmps3
    go_wp2_with fail
    refine (JS1.out _).mono ?_
    rintro e w1 ⟨rfl, hb1⟩
    obtain ⟨hc1, hf1⟩ := bcell hb1
    have y1 : w.heap.size + 1 < w1.heap.size := by have := hb1.size; simp at this; omega
    have y1' : w.heap.size < w1.heap.size := by omega
    go_wp2_with fail
    refine (JS2.out _).mono ?_
    rintro e w2 ⟨rfl, hb2⟩
    obtain ⟨hc2, hf2⟩ := bcell hb2
    have y2 : w.heap.size + 1 < w2.heap.size := Nat.lt_of_lt_of_le y1 hb2.size
    have y2' : w.heap.size < w2.heap.size := by omega
    go_wp2_with fail
    refine (JCC.out _).mono ?_
    rintro e w3 ⟨rfl, hb3⟩
    obtain ⟨hc3, hf3⟩ := bcell hb3
    have y3 : w.heap.size + 1 < w3.heap.size := Nat.lt_of_lt_of_le y2 hb3.size
    have y3' : w.heap.size < w3.heap.size := by omega
    go_wp2_with fail
    refine (JV1.out _).mono ?_
    rintro e w4 ⟨rfl, hb4⟩
    obtain ⟨hc4, hf4⟩ := bcell hb4
    have y4 : w.heap.size + 1 < w4.heap.size := Nat.lt_of_lt_of_le y3 hb4.size
    have y4' : w.heap.size < w4.heap.size := by omega
    go_wp2_with fail
    refine (JV2.out _).mono ?_
    rintro e w5 ⟨rfl, hb5⟩
    obtain ⟨hc5, hf5⟩ := bcell hb5
    have y5 : w.heap.size + 1 < w5.heap.size := Nat.lt_of_lt_of_le y4 hb5.size
    have y5' : w.heap.size < w5.heap.size := by omega
    go_wp2_with fail
    refine (JM.out _).mono ?_
    rintro e w6 ⟨rfl, hb6⟩
    obtain ⟨hc6, hf6⟩ := bcell hb6
    have y6 : w.heap.size + 1 < w6.heap.size := Nat.lt_of_lt_of_le y5 hb6.size
    have y6' : w.heap.size < w6.heap.size := by omega
    go_wp2_with fail
    refine (JS.out _).mono ?_
    rintro e w7 ⟨rfl, hb7⟩
    obtain ⟨hc7, hf7⟩ := bcell hb7
    have y7 : w.heap.size + 1 < w7.heap.size := Nat.lt_of_lt_of_le y6 hb7.size
    have y7' : w.heap.size < w7.heap.size := by omega
    go_wp2_with fail
    refine (sure_any _).mono ?_
    rintro e w8 ⟨rfl, hb8⟩
    go_wp2_with fail
    go_ret
    exact ⟨rfl, bnext (bnext (bnext (bnext (bnext (bnext (bnext (bnext (below2 _ _ _) hb1) hb2) hb3) hb4) hb5) hb6) hb7) hb8⟩
  · have hle : m ≤ n := hmm.2.1 (by omega)
    clear hmm
    go_enter Try.func3, Try.ntmps3
    go_wp2_with fail
    refine (JS1.out _).mono ?_
    rintro e w1 ⟨rfl, hb1⟩
    obtain ⟨hc1, hf1⟩ := bcell hb1
    have y1 : w.heap.size + 1 < w1.heap.size := by have := hb1.size; simp at this; omega
    have y1' : w.heap.size < w1.heap.size := by omega
    go_wp2_with fail
    refine (JS2.out _).mono ?_
    rintro e w2 ⟨rfl, hb2⟩
    obtain ⟨hc2, hf2⟩ := bcell hb2
    have y2 : w.heap.size + 1 < w2.heap.size := Nat.lt_of_lt_of_le y1 hb2.size
    have y2' : w.heap.size < w2.heap.size := by omega
    go_wp2_with fail
    refine (JCC.out _).mono ?_
    rintro e w3 ⟨rfl, hb3⟩
    obtain ⟨hc3, hf3⟩ := bcell hb3
    have y3 : w.heap.size + 1 < w3.heap.size := Nat.lt_of_lt_of_le y2 hb3.size
    have y3' : w.heap.size < w3.heap.size := by omega
    go_wp2_with fail
    refine (JV1.out _).mono ?_
    rintro e w4 ⟨rfl, hb4⟩
    obtain ⟨hc4, hf4⟩ := bcell hb4
    have y4 : w.heap.size + 1 < w4.heap.size := Nat.lt_of_lt_of_le y3 hb4.size
    have y4' : w.heap.size < w4.heap.size := by omega
    go_wp2_with fail
    refine (JV2.out _).mono ?_
    rintro e w5 ⟨rfl, hb5⟩
    obtain ⟨hc5, hf5⟩ := bcell hb5
    have y5 : w.heap.size + 1 < w5.heap.size := Nat.lt_of_lt_of_le y4 hb5.size
    have y5' : w.heap.size < w5.heap.size := by omega
    go_wp2_with fail
    refine (JM.out _).mono ?_
    rintro e w6 ⟨rfl, hb6⟩
    obtain ⟨hc6, hf6⟩ := bcell hb6
    have y6 : w.heap.size + 1 < w6.heap.size := Nat.lt_of_lt_of_le y5 hb6.size
    have y6' : w.heap.size < w6.heap.size := by omega
    go_wp2_with fail
    refine (JS.out _).mono ?_
    rintro e w7 ⟨rfl, hb7⟩
    obtain ⟨hc7, hf7⟩ := bcell hb7
    have y7 : w.heap.size + 1 < w7.heap.size := Nat.lt_of_lt_of_le y6 hb7.size
    have y7' : w.heap.size < w7.heap.size := by omega
    go_wp2_with fail
    refine (sure_any _).mono ?_
    rintro e w8 ⟨rfl, hb8⟩
    go_wp2_with fail
    go_ret
    exact ⟨rfl, bnext (bnext (bnext (bnext (bnext (bnext (bnext (bnext (below2 _ _ _) hb1) hb2) hb3) hb4) hb5) hb6) hb7) hb8⟩
end Go.Proofs.Ytlhgopdlpjmbhaa
