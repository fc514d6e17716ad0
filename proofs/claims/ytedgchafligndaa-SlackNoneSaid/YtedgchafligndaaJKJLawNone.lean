/- The walk of the law SlackNone: it answers true whatever comes in; no condition. -/
import Derived.Test.YtedgchafligndaaJB13
namespace Go.Proofs.Ytedgchafligndaa
open Go.RowKit Tsk

abbrev actv (k i p l c a d : Int) : Value := .agg #[.int .i64 k, .int .i64 i, .int .i64 p, .int .i64 l, .int .i64 c, .int .i64 a, .int .i64 d]
set_option maxHeartbeats 4000000 in
set_option maxRecDepth 100000 in
theorem none_any (h k i p l c a d : Int) (w : World) : Calls Try.prog 4 #[.int .i64 h, actv k i p l c a d] w fun e w' => e = .returned (.bool true) ∧ Below w.heap.size w w' := by
  have HC := Lib.hid (fun W => nl_create p W)
  have HO := Lib.hid (fun W => nl_of h W)
  have HN := Lib.hid (fun W => nl_next W)
  have HG := Lib.hid (fun W => nl_give i W)
  have HS := Lib.hid (fun W => nl_save W)
  have HR := Lib.hid (fun W => nl_remove h W)
  have HP := Lib.hid (fun W => nl_push h ⟨l, c, a, d⟩ i W)
  have HL := Lib.hid (fun W => nl_list W)
  have HD := Lib.hid (fun W => nl_ready W)
  have HT := Lib.hid (fun W => nl_twin W)
  have HW := Lib.hid (fun W => works_any W)
  have HNU := Lib.hid (fun W => num_any 50 W)
  obtain ⟨WA, hWA⟩ : ∃ WA, WA = w.alloc (.cells #[.int .i64 k, .int .i64 i, .int .i64 p, .int .i64 l, .int .i64 c, .int .i64 a, .int .i64 d] 40) := ⟨_, rfl⟩
  have HB := Lib.hid (show Below w.heap.size w WA from by rw [hWA]; exact (Below.refl _ _).alloc (Nat.le_refl _) _)
  have HH := Lib.hid (show Has WA w.heap.size (.cells #[.int .i64 k, .int .i64 i, .int .i64 p, .int .i64 l, .int .i64 c, .int .i64 a, .int .i64 d] 40 (0, 0)) from by rw [hWA]; exact has_new _ _ _ rfl)
  have HX := Lib.hid (fun W (hb : Below WA.heap.size WA W) => (show W.cell? ⟨w.heap.size, 0, none⟩ = some (.int .i64 k) ∧ W.cell? ⟨w.heap.size, 1, none⟩ = some (.int .i64 i) ∧ W.cell? ⟨w.heap.size, 2, none⟩ = some (.int .i64 p) ∧ W.cell? ⟨w.heap.size, 3, none⟩ = some (.int .i64 l) ∧ W.cell? ⟨w.heap.size, 4, none⟩ = some (.int .i64 c) ∧ W.cell? ⟨w.heap.size, 5, none⟩ = some (.int .i64 a) ∧ W.cell? ⟨w.heap.size, 6, none⟩ = some (.int .i64 d) from by
    have h1 : Has W w.heap.size _ := (hb.block _ (has_lt HH.out)).trans HH.out
    exact ⟨(has_cell h1 0).trans rfl, (has_cell h1 1).trans rfl, (has_cell h1 2).trans rfl, (has_cell h1 3).trans rfl, (has_cell h1 4).trans rfl, (has_cell h1 5).trans rfl, (has_cell h1 6).trans rfl⟩))
  have HWA := Lib.hid hWA
  have HB0 := Lib.hid (Below.refl WA.heap.size WA)
  clear hWA
  go_enter Try.func4, Try.ntmps4
  go_upto_region 1 with fail
  rw [← HWA.out]
  obtain ⟨x0, x1, x2, x3, x4, x5, x6⟩ := HX.out WA HB0.out
  go_wp2_with fail
  refine (HC.out _).mono ?_
  rintro e w1 ⟨rfl, hb1⟩
  have HB1 := Lib.hid (bnext HB0.out hb1)
  clear hb1 x0 x1 x2 x3 x4 x5 x6
  obtain ⟨x0, x1, x2, x3, x4, x5, x6⟩ := HX.out w1 HB1.out
  go_wp2_with fail
  refine (HO.out _).mono ?_
  rintro e w2 ⟨rfl, hb2⟩
  have HB2 := Lib.hid (bnext HB1.out hb2)
  clear hb2 x0 x1 x2 x3 x4 x5 x6
  obtain ⟨x0, x1, x2, x3, x4, x5, x6⟩ := HX.out w2 HB2.out
  go_wp2_with fail
  refine (HN.out _).mono ?_
  rintro e w3 ⟨rfl, hb3⟩
  have HB3 := Lib.hid (bnext (HB2.out.alloc HB2.out.size _) hb3)
  clear hb3 x0 x1 x2 x3 x4 x5 x6
  obtain ⟨x0, x1, x2, x3, x4, x5, x6⟩ := HX.out w3 HB3.out
  go_wp2_with fail
  refine (HG.out _).mono ?_
  rintro e w4 ⟨rfl, hb4⟩
  have HB4 := Lib.hid (bnext HB3.out hb4)
  clear hb4 x0 x1 x2 x3 x4 x5 x6
  obtain ⟨x0, x1, x2, x3, x4, x5, x6⟩ := HX.out w4 HB4.out
  go_wp2_with fail
  refine (HS.out _).mono ?_
  rintro e w5 ⟨rfl, hb5⟩
  have HB5 := Lib.hid (bnext HB4.out hb5)
  clear hb5 x0 x1 x2 x3 x4 x5 x6
  obtain ⟨x0, x1, x2, x3, x4, x5, x6⟩ := HX.out w5 HB5.out
  go_wp2_with fail
  refine (HNU.out _).mono ?_
  rintro e w6 ⟨rfl, rfl⟩
  go_wp2_with fail
  refine (HNU.out _).mono ?_
  rintro e w6 ⟨rfl, rfl⟩
  go_wp2_with fail
  refine (HR.out _).mono ?_
  rintro e w6 ⟨rfl, hb6⟩
  have HB6 := Lib.hid (bnext HB5.out hb6)
  clear hb6 x0 x1 x2 x3 x4 x5 x6
  obtain ⟨x0, x1, x2, x3, x4, x5, x6⟩ := HX.out w6 HB6.out
  go_wp2_with fail
  refine (HNU.out _).mono ?_
  rintro e w7 ⟨rfl, rfl⟩
  go_wp2_with fail
  refine (HP.out _).mono ?_
  rintro e w7 ⟨rfl, hb7⟩
  have HB7 := Lib.hid (bnext HB6.out hb7)
  clear hb7 x0 x1 x2 x3 x4 x5 x6
  obtain ⟨x0, x1, x2, x3, x4, x5, x6⟩ := HX.out w7 HB7.out
  go_wp2_with fail
  refine (HNU.out _).mono ?_
  rintro e w8 ⟨rfl, rfl⟩
  go_wp2_with fail
  refine (HL.out _).mono ?_
  rintro e w8 ⟨rfl, hb8⟩
  have HB8 := Lib.hid (bnext HB7.out hb8)
  clear hb8 x0 x1 x2 x3 x4 x5 x6
  go_wp2_with fail
  refine (HD.out _).mono ?_
  rintro e w9 ⟨rfl, hb9⟩
  have HB9 := Lib.hid (bnext HB8.out hb9)
  clear hb9
  go_wp2_with fail
  refine (HT.out _).mono ?_
  rintro e w10 ⟨rfl, hb10⟩
  have HB10 := Lib.hid (bnext HB9.out hb10)
  clear hb10
  go_wp2_with fail
  refine (HW.out _).mono ?_
  rintro e w11 ⟨rfl, hb11⟩
  have HB11 := Lib.hid (bnext HB10.out hb11)
  clear hb11
  go_wp2_with fail
  go_ret
  exact ⟨rfl, bnext HB.out HB11.out⟩
end Go.Proofs.Ytedgchafligndaa
