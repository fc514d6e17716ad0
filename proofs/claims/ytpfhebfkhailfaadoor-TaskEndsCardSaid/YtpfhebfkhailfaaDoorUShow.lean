/- The program's task: Show; no condition but those that each row names. -/
import Derived.Test.YtpfhebfkhailfaaDoorULib
import Derived.Test.YtpfhebfkhailfaaDoorUValid
import Derived.Test.YtpfhebfkhailfaaDoorUPush
import Derived.Test.YtpfhebfkhailfaaDoorQText
import Derived.Test.YtpfhebfkhailfaaDoorUPick
namespace Go.Proofs.YtpfhebfkhailfaaDoor
open Go.RowKit Tsk

theorem ppart (L : List UInt8) (n : Int) (hL : L.length ≤ 10) (h0 : 0 ≤ n) (hn : n ≤ 2147483647) (w : World) (hg : LaidAt w) :
    Calls Tryd.prog 42 #[.string ⟨L.toArray⟩, .int .i64 n] w fun e w' => e = .returned (.string ⟨([32] ++ L ++ [32] ++ dgL n).toArray⟩) ∧ Below w.heap.size w w' := by
  have HI := Lib.hid (itoa_any n h0 hn w hg)
  have ln := dgL_len n (by omega)
  generalize dgL n = dn at *
  have m0 : ¬ 9223372036854775807 < 1 + L.length := by omega
  have m1 : ¬ 9223372036854775807 < 1 + L.length + 1 := by omega
  have m2 : ¬ 9223372036854775807 < 1 + L.length + 1 + dn.length := by omega
  go_enter Tryd.func42, Tryd.ntmps42
  go_wp2_with fail
  refine HI.out.mono ?_
  rintro e w1 ⟨rfl, hb⟩
  have HB := Lib.hid hb
  clear hb
  go_wp2_with fail
  go_ret
  exact ⟨ret_str (ba_of_list (by simp [ByteArray.data_append])), HB.out⟩
/-- What is told of a job, within its brackets. -/
def jobI (j : Jb) : List UInt8 := dgL j.l ++ (if 0 < j.c then [32, 99, 97, 112, 32] ++ dgL j.c else []) ++ [32, 97, 116, 32] ++ dgL j.a ++ (if 0 < j.d then [32, 100, 117, 101, 32] ++ dgL j.d else [])
set_option maxHeartbeats 1000000 in
theorem pshowjob (j : Jb) (hj : okJ j) (w : World) (hg : LaidAt w) :
    Calls Tryd.prog 43 #[jV j] w fun e w' => e = .returned (.string ⟨(jobI j).toArray⟩) ∧ Below w.heap.size w w' := by
  obtain ⟨l, c, a, d⟩ := j
  obtain ⟨⟨l0, l1⟩, ⟨c0, c1⟩, ⟨a0, a1⟩, ⟨d0, d1⟩⟩ := (okJ_mk _ _ _ _).1 hj
  obtain ⟨WA, hWA⟩ : ∃ WA, WA = w.alloc (.cells #[.int .i64 l, .int .i64 c, .int .i64 a, .int .i64 d] JT) := ⟨_, rfl⟩
  have HB := Lib.hid (show Below w.heap.size w WA from by rw [hWA]; exact (Below.refl _ _).alloc (Nat.le_refl _) _)
  have HA := Lib.hid (show HasJ WA w.heap.size ⟨l, c, a, d⟩ from by rw [hWA]; exact has_new w _ _ rfl)
  have HW := Lib.hid hWA
  have HL := Lib.hid (fun w (hg : LaidAt w) => itoa_any l (by omega) (by omega) w hg)
  have HC := Lib.hid (fun w (hg : LaidAt w) => ppart [99, 97, 112] c (by decide) c0 (by omega) w hg)
  have HT := Lib.hid (fun w (hg : LaidAt w) => ppart [97, 116] a (by decide) a0 (by omega) w hg)
  have HD := Lib.hid (fun w (hg : LaidAt w) => ppart [100, 117, 101] d (by decide) d0 (by omega) w hg)
  have HG := Lib.hid hg
  have HI := Lib.hid (show jobI ⟨l, c, a, d⟩ = dgL l ++ (if 0 < c then [32, 99, 97, 112, 32] ++ dgL c else []) ++ ([32] ++ [97, 116] ++ [32] ++ dgL a) ++ (if 0 < d then [32, 100, 117, 101, 32] ++ dgL d else []) from by unfold jobI; simp)
  have k0 := dgL_len l (by omega)
  have k1 := dgL_len c (by omega)
  have k2 := dgL_len a (by omega)
  have k3 := dgL_len d (by omega)
  obtain ⟨tc, htc⟩ : ∃ tc, tc = [32] ++ [99, 97, 112] ++ [32] ++ dgL c := ⟨_, rfl⟩
  obtain ⟨ta, hta⟩ : ∃ ta, ta = [32] ++ [97, 116] ++ [32] ++ dgL a := ⟨_, rfl⟩
  obtain ⟨td, htd⟩ : ∃ td, td = [32] ++ [100, 117, 101] ++ [32] ++ dgL d := ⟨_, rfl⟩
  rw [show ([32, 99, 97, 112, 32] ++ dgL c : List UInt8) = tc from by rw [htc]; simp, show ([32, 100, 117, 101, 32] ++ dgL d : List UInt8) = td from by rw [htd]; simp, ← hta] at HI
  rw [← htc] at HC
  rw [← hta] at HT
  rw [← htd] at HD
  have lc : tc.length ≤ 15 := by rw [htc]; simp; omega
  have la : ta.length ≤ 14 := by rw [hta]; simp; omega
  have ld : td.length ≤ 15 := by rw [htd]; simp; omega
  generalize dgL l = dl at *
  clear htc hta htd k1 k2 k3 hj hg hWA
  by_cases hc : 0 < c
  · by_cases hd : 0 < d
    · have HI := Lib.hid (HI.out.trans (by rw [if_pos hc, if_pos hd]))
      have mtc : ¬ 9223372036854775807 < dl.length + tc.length := by omega
      have mta : ¬ 9223372036854775807 < dl.length + tc.length + ta.length := by omega
      have mtd : ¬ 9223372036854775807 < dl.length + tc.length + ta.length + td.length := by omega
      go_enter Tryd.func43, Tryd.ntmps43
      obtain ⟨j0, j1, j2, j3⟩ := HA.out.cells
      go_wp2_with fail
      rw [← HW.out]
      refine (HL.out _ (HG.out.below HB.out)).mono ?_
      rintro e w1 ⟨rfl, hb⟩
      have HB1 := Lib.hid (bnext HB.out hb)
      have HA1 := Lib.hid (HA.out.below hb)
      clear hb j0 j1 j2 j3
      obtain ⟨j0, j1, j2, j3⟩ := HA1.out.cells
      go_wp2_with fail
      refine (HC.out _ (HG.out.below HB1.out)).mono ?_
      rintro e w2 ⟨rfl, hb⟩
      have HB2 := Lib.hid (bnext HB1.out hb)
      have HA2 := Lib.hid (HA1.out.below hb)
      clear hb j0 j1 j2 j3
      obtain ⟨j0, j1, j2, j3⟩ := HA2.out.cells
      go_wp2_with fail
      refine (HT.out _ (HG.out.below HB2.out)).mono ?_
      rintro e w3 ⟨rfl, hb⟩
      have HB3 := Lib.hid (bnext HB2.out hb)
      have HA3 := Lib.hid (HA2.out.below hb)
      clear hb j0 j1 j2 j3
      obtain ⟨j0, j1, j2, j3⟩ := HA3.out.cells
      go_wp2_with fail
      refine (HD.out _ (HG.out.below HB3.out)).mono ?_
      rintro e w4 ⟨rfl, hb⟩
      have HB4 := Lib.hid (bnext HB3.out hb)
      have HA4 := Lib.hid (HA3.out.below hb)
      clear hb j0 j1 j2 j3
      obtain ⟨j0, j1, j2, j3⟩ := HA4.out.cells
      go_wp2_with fail
      go_ret
      exact ⟨ret_str (by rw [HI.out]; exact ba_of_list (by simp [ByteArray.data_append])), HB4.out⟩
    · have HI := Lib.hid (HI.out.trans (by rw [if_pos hc, if_neg hd]))
      have hdb : decide (0 < d) = false := decide_eq_false hd
      clear hd
      have mtc : ¬ 9223372036854775807 < dl.length + tc.length := by omega
      have mta : ¬ 9223372036854775807 < dl.length + tc.length + ta.length := by omega
      go_enter Tryd.func43, Tryd.ntmps43
      obtain ⟨j0, j1, j2, j3⟩ := HA.out.cells
      go_wp2_with fail
      rw [← HW.out]
      refine (HL.out _ (HG.out.below HB.out)).mono ?_
      rintro e w1 ⟨rfl, hb⟩
      have HB1 := Lib.hid (bnext HB.out hb)
      have HA1 := Lib.hid (HA.out.below hb)
      clear hb j0 j1 j2 j3
      obtain ⟨j0, j1, j2, j3⟩ := HA1.out.cells
      go_wp2_with fail
      refine (HC.out _ (HG.out.below HB1.out)).mono ?_
      rintro e w2 ⟨rfl, hb⟩
      have HB2 := Lib.hid (bnext HB1.out hb)
      have HA2 := Lib.hid (HA1.out.below hb)
      clear hb j0 j1 j2 j3
      obtain ⟨j0, j1, j2, j3⟩ := HA2.out.cells
      go_wp2_with fail
      refine (HT.out _ (HG.out.below HB2.out)).mono ?_
      rintro e w3 ⟨rfl, hb⟩
      have HB3 := Lib.hid (bnext HB2.out hb)
      have HA3 := Lib.hid (HA2.out.below hb)
      clear hb j0 j1 j2 j3
      obtain ⟨j0, j1, j2, j3⟩ := HA3.out.cells
      go_wp2_with fail
      go_ret
      exact ⟨ret_str (by rw [HI.out]; exact ba_of_list (by simp [ByteArray.data_append])), HB3.out⟩
  · have hcb : decide (0 < c) = false := decide_eq_false hc
    by_cases hd : 0 < d
    · have HI := Lib.hid (HI.out.trans (by rw [if_neg hc, if_pos hd]))
      clear hc
      have mta : ¬ 9223372036854775807 < dl.length + ta.length := by omega
      have mtd : ¬ 9223372036854775807 < dl.length + ta.length + td.length := by omega
      go_enter Tryd.func43, Tryd.ntmps43
      obtain ⟨j0, j1, j2, j3⟩ := HA.out.cells
      go_wp2_with fail
      rw [← HW.out]
      refine (HL.out _ (HG.out.below HB.out)).mono ?_
      rintro e w1 ⟨rfl, hb⟩
      have HB1 := Lib.hid (bnext HB.out hb)
      have HA1 := Lib.hid (HA.out.below hb)
      clear hb j0 j1 j2 j3
      obtain ⟨j0, j1, j2, j3⟩ := HA1.out.cells
      go_wp2_with fail
      refine (HT.out _ (HG.out.below HB1.out)).mono ?_
      rintro e w2 ⟨rfl, hb⟩
      have HB2 := Lib.hid (bnext HB1.out hb)
      have HA2 := Lib.hid (HA1.out.below hb)
      clear hb j0 j1 j2 j3
      obtain ⟨j0, j1, j2, j3⟩ := HA2.out.cells
      go_wp2_with fail
      refine (HD.out _ (HG.out.below HB2.out)).mono ?_
      rintro e w3 ⟨rfl, hb⟩
      have HB3 := Lib.hid (bnext HB2.out hb)
      have HA3 := Lib.hid (HA2.out.below hb)
      clear hb j0 j1 j2 j3
      obtain ⟨j0, j1, j2, j3⟩ := HA3.out.cells
      go_wp2_with fail
      go_ret
      exact ⟨ret_str (by rw [HI.out]; exact ba_of_list (by simp [ByteArray.data_append])), HB3.out⟩
    · have HI := Lib.hid (HI.out.trans (by rw [if_neg hc, if_neg hd]))
      have hdb : decide (0 < d) = false := decide_eq_false hd
      clear hc
      clear hd
      have mta : ¬ 9223372036854775807 < dl.length + ta.length := by omega
      go_enter Tryd.func43, Tryd.ntmps43
      obtain ⟨j0, j1, j2, j3⟩ := HA.out.cells
      go_wp2_with fail
      rw [← HW.out]
      refine (HL.out _ (HG.out.below HB.out)).mono ?_
      rintro e w1 ⟨rfl, hb⟩
      have HB1 := Lib.hid (bnext HB.out hb)
      have HA1 := Lib.hid (HA.out.below hb)
      clear hb j0 j1 j2 j3
      obtain ⟨j0, j1, j2, j3⟩ := HA1.out.cells
      go_wp2_with fail
      refine (HT.out _ (HG.out.below HB1.out)).mono ?_
      rintro e w2 ⟨rfl, hb⟩
      have HB2 := Lib.hid (bnext HB1.out hb)
      have HA2 := Lib.hid (HA1.out.below hb)
      clear hb j0 j1 j2 j3
      obtain ⟨j0, j1, j2, j3⟩ := HA2.out.cells
      go_wp2_with fail
      go_ret
      exact ⟨ret_str (by rw [HI.out]; exact ba_of_list (by simp [ByteArray.data_append])), HB2.out⟩
set_option maxHeartbeats 4000000 in
theorem pshow_ok (p : Int) (s : Value) (n : Nat) (f : Nat → Jb) (k : Ac) (w : World) (h : Jobs w s n f) (hv : okT p n f k) (hg : LaidAt w) : Calls Tryd.prog 16 #[tV p s k] w fun e w' => e = .returned (.string ⟨(textS p k f n).toArray⟩) ∧ Below w.heap.size w w' := by
  have HV := Lib.hid (fun w (h : Jobs w s n f) => pvalid p s n f k w h (okT_c hv))
  rw [ok_yes hv, errV_0] at HV
  have HJ := Lib.hid h
  have HOK := Lib.hid hv
  obtain ⟨q, cap, rfl, _, _⟩ := h
  obtain ⟨kg, ko, kn, kd, kc, kt⟩ := k
  obtain ⟨WA, hWA⟩ : ∃ WA, WA = w.alloc (.cells #[.int .i64 p, .slice q n cap, .int .i64 kg, .int .i64 ko, .int .i64 kn, .int .i64 kd, .int .i64 kc, .int .i64 kt] KT) := ⟨_, rfl⟩
  have HB := Lib.hid (show Below w.heap.size w WA from by rw [hWA]; exact (Below.refl _ _).alloc (Nat.le_refl _) _)
  have HT := Lib.hid (show HasT WA w.heap.size p (.slice q n cap) ⟨kg, ko, kn, kd, kc, kt⟩ from by rw [hWA]; exact has_new w _ _ rfl)
  have HW := Lib.hid hWA
  have HG := Lib.hid hg
  obtain ⟨⟨p1, p2⟩, hn8, _, hA⟩ := hv
  obtain ⟨⟨⟨g1, g2⟩, hz2, hz3⟩, ⟨d1, d2⟩, ⟨c1, c2⟩, t1, t2⟩ := (okA_mk _ _ _ _ _ _).1 hA
  have HLN := Lib.hid (headL_len (p := p) (k := ⟨kg, ko, kn, kd, kc, kt⟩) p2 g2 (by dsimp only; omega) (by dsimp only; omega) (by dsimp only; omega))
  have HIP := Lib.hid (fun w (hg : LaidAt w) => itoa_any p p1 (by omega) w hg)
  have HPG := Lib.hid (fun w (hg : LaidAt w) => ppart [103, 105, 118, 101, 110] kg (by decide) g1 (by omega) w hg)
  have HPD := Lib.hid (fun w (hg : LaidAt w) => ppart [100, 111, 110, 101] kd (by decide) d1 (by omega) w hg)
  have HPC := Lib.hid (fun w (hg : LaidAt w) => ppart [99, 117, 116] kc (by decide) c1 (by omega) w hg)
  have HPL := Lib.hid (fun w (hg : LaidAt w) => ppart [108, 97, 116, 101] kt (by decide) t1 (by omega) w hg)
  have HH := Lib.hid (show headL p ⟨kg, ko, kn, kd, kc, kt⟩ = [112, 114, 105, 111, 32] ++ dgL p ++ ([32] ++ [103, 105, 118, 101, 110] ++ [32] ++ dgL kg ++ ([32] ++ [100, 111, 110, 101] ++ [32] ++ dgL kd) ++ ([32] ++ [99, 117, 116] ++ [32] ++ dgL kc) ++ ([32] ++ [108, 97, 116, 101] ++ [32] ++ dgL kt)) from by unfold headL; simp)
  have lp := dgL_len p (by omega)
  have lg := dgL_len kg (by omega)
  have ld := dgL_len kd (by omega)
  have lc := dgL_len kc (by omega)
  have lt := dgL_len kt (by omega)
  clear hA hz2 hz3
  have qg : ([32] ++ [103, 105, 118, 101, 110] ++ [32] ++ dgL kg).length ≤ 20 := by simp; omega
  have qd : ([32] ++ [100, 111, 110, 101] ++ [32] ++ dgL kd).length ≤ 20 := by simp; omega
  have qc : ([32] ++ [99, 117, 116] ++ [32] ++ dgL kc).length ≤ 20 := by simp; omega
  have ql : ([32] ++ [108, 97, 116, 101] ++ [32] ++ dgL kt).length ≤ 20 := by simp; omega
  generalize [32] ++ [103, 105, 118, 101, 110] ++ [32] ++ dgL kg = tg at *
  generalize [32] ++ [100, 111, 110, 101] ++ [32] ++ dgL kd = td at *
  generalize [32] ++ [99, 117, 116] ++ [32] ++ dgL kc = tc at *
  generalize [32] ++ [108, 97, 116, 101] ++ [32] ++ dgL kt = tl at *
  generalize dgL p = dp at *
  clear lg ld lc lt
  have n1 : ¬ 9223372036854775807 < 5 + dp.length := by omega
  have n2 : ¬ 9223372036854775807 < tg.length + td.length := by omega
  have n3 : ¬ 9223372036854775807 < tg.length + td.length + tc.length := by omega
  have n4 : ¬ 9223372036854775807 < tg.length + td.length + tc.length + tl.length := by omega
  have n5 : ¬ 9223372036854775807 < 5 + dp.length + (tg.length + td.length + tc.length + tl.length) := by omega
  clear hWA hg
  go_enter Tryd.func16, Tryd.ntmps16
  go_wp2_with fail
  rw [← HW.out]
  refine (HV.out _ (HJ.out.below HB.out)).mono ?_
  rintro e w1 ⟨rfl, hb1⟩
  obtain ⟨x0, x1, x2, x3, x4, x5, x6, x7⟩ := (HT.out.below hb1).cells
  have HB1 := Lib.hid (bnext HB.out hb1)
  have HT1 := Lib.hid (HT.out.below hb1)
  clear hb1
  go_wp2_with fail
  refine (HIP.out _ (HG.out.below HB1.out)).mono ?_
  rintro e w2 ⟨rfl, hb2⟩
  have HB2 := Lib.hid (bnext HB1.out hb2)
  have HT2 := Lib.hid (HT1.out.below hb2)
  clear hb2 x0 x1 x2 x3 x4 x5 x6 x7
  go_upto_region 4 with fail
  obtain ⟨C, hCd⟩ : ∃ C : World → Prop, C = fun W' => Below w2.heap.size w2 W' := ⟨_, rfl⟩
  refine region_class C (by kernel_rfl) (by kernel_rfl) (by rw [hCd]; exact below_drewOne) ?_
  have HC := Lib.hid (show ∀ W, C W → HasT W w.heap.size p (.slice q n cap) ⟨kg, ko, kn, kd, kc, kt⟩ ∧ Below w.heap.size w W from fun W hW => by rw [hCd] at hW; exact ⟨HT2.out.below hW, bnext HB2.out hW⟩)
  have HCn := Lib.hid (show ∀ W W', C W → Below W.heap.size W W' → C W' from fun W W' hW hb => by rw [hCd] at hW ⊢; exact bnext hW hb)
  have HQG := Lib.hid (fun W (hW : C W) => (HPG.out W (HG.out.below (HC.out W hW).2)).mono (fun e w' ⟨he, hb⟩ => And.intro he (HCn.out _ _ hW hb)))
  have HQD := Lib.hid (fun W (hW : C W) => (HPD.out W (HG.out.below (HC.out W hW).2)).mono (fun e w' ⟨he, hb⟩ => And.intro he (HCn.out _ _ hW hb)))
  have HQC := Lib.hid (fun W (hW : C W) => (HPC.out W (HG.out.below (HC.out W hW).2)).mono (fun e w' ⟨he, hb⟩ => And.intro he (HCn.out _ _ hW hb)))
  have HQL := Lib.hid (fun W (hW : C W) => (HPL.out W (HG.out.below (HC.out W hW).2)).mono (fun e w' ⟨he, hb⟩ => And.intro he (HCn.out _ _ hW hb)))
  clear hCd
  with_reducible refine wpQuiet_step ?_
  intro K hK
  go_simp
  first
    | refine hK _ ?_
    | refine ⟨_, fun _ _ => rfl, hK _ ?_⟩
  clear hK K
  with_reducible refine wpQuiet_step ?_
  intro K hK
  go_simp
  first
    | refine hK _ ?_
    | refine ⟨_, fun _ _ => rfl, hK _ ?_⟩
  clear hK K
  with_reducible refine wpQuiet_step ?_
  intro K hK
  go_simp
  first
    | refine hK _ ?_
    | refine ⟨_, fun _ _ => rfl, hK _ ?_⟩
  clear hK K
  with_reducible refine wpQuiet_step ?_
  intro K hK
  go_simp
  first
    | refine hK _ ?_
    | (apply Exists.intro
       refine ⟨fun W hW => ?_, hK _ ?_⟩
       focus
         obtain ⟨ht, hb0⟩ := HC.out W hW
         obtain ⟨x0, x1, x2, x3, x4, x5, x6, x7⟩ := ht.cells
         clear ht hb0
         go_simp
         rfl)
  clear hK K
  with_reducible refine wpQuiet_step ?_
  intro K hK
  go_simp
  apply Exists.intro
  refine ⟨fun W hW => ?_, hK _ ?_⟩
  focus exact HQG.out W hW
  clear hK K
  with_reducible refine wpQuiet_step ?_
  intro K hK
  go_simp
  first
    | refine hK _ ?_
    | refine ⟨_, fun _ _ => rfl, hK _ ?_⟩
  clear hK K
  with_reducible refine wpQuiet_step ?_
  intro K hK
  go_simp
  first
    | refine hK _ ?_
    | refine ⟨_, fun _ _ => rfl, hK _ ?_⟩
  clear hK K
  with_reducible refine wpQuiet_step ?_
  intro K hK
  go_simp
  first
    | refine hK _ ?_
    | (apply Exists.intro
       refine ⟨fun W hW => ?_, hK _ ?_⟩
       focus
         obtain ⟨ht, hb0⟩ := HC.out W hW
         obtain ⟨x0, x1, x2, x3, x4, x5, x6, x7⟩ := ht.cells
         clear ht hb0
         go_simp
         rfl)
  clear hK K
  with_reducible refine wpQuiet_step ?_
  intro K hK
  go_simp
  apply Exists.intro
  refine ⟨fun W hW => ?_, hK _ ?_⟩
  focus exact HQD.out W hW
  clear hK K
  with_reducible refine wpQuiet_step ?_
  intro K hK
  go_simp
  first
    | refine hK _ ?_
    | refine ⟨_, fun _ _ => rfl, hK _ ?_⟩
  clear hK K
  with_reducible refine wpQuiet_step ?_
  intro K hK
  go_simp
  first
    | refine hK _ ?_
    | refine ⟨_, fun _ _ => rfl, hK _ ?_⟩
  clear hK K
  with_reducible refine wpQuiet_step ?_
  intro K hK
  go_simp
  first
    | refine hK _ ?_
    | refine ⟨_, fun _ _ => rfl, hK _ ?_⟩
  clear hK K
  with_reducible refine wpQuiet_step ?_
  intro K hK
  go_simp
  first
    | refine hK _ ?_
    | (apply Exists.intro
       refine ⟨fun W hW => ?_, hK _ ?_⟩
       focus
         obtain ⟨ht, hb0⟩ := HC.out W hW
         obtain ⟨x0, x1, x2, x3, x4, x5, x6, x7⟩ := ht.cells
         clear ht hb0
         go_simp
         rfl)
  clear hK K
  with_reducible refine wpQuiet_step ?_
  intro K hK
  go_simp
  apply Exists.intro
  refine ⟨fun W hW => ?_, hK _ ?_⟩
  focus exact HQC.out W hW
  clear hK K
  with_reducible refine wpQuiet_step ?_
  intro K hK
  go_simp
  first
    | refine hK _ ?_
    | refine ⟨_, fun _ _ => rfl, hK _ ?_⟩
  clear hK K
  with_reducible refine wpQuiet_step ?_
  intro K hK
  go_simp
  first
    | refine hK _ ?_
    | refine ⟨_, fun _ _ => rfl, hK _ ?_⟩
  clear hK K
  with_reducible refine wpQuiet_step ?_
  intro K hK
  go_simp
  first
    | refine hK _ ?_
    | refine ⟨_, fun _ _ => rfl, hK _ ?_⟩
  clear hK K
  with_reducible refine wpQuiet_step ?_
  intro K hK
  go_simp
  first
    | refine hK _ ?_
    | (apply Exists.intro
       refine ⟨fun W hW => ?_, hK _ ?_⟩
       focus
         obtain ⟨ht, hb0⟩ := HC.out W hW
         obtain ⟨x0, x1, x2, x3, x4, x5, x6, x7⟩ := ht.cells
         clear ht hb0
         go_simp
         rfl)
  clear hK K
  with_reducible refine wpQuiet_step ?_
  intro K hK
  go_simp
  apply Exists.intro
  refine ⟨fun W hW => ?_, hK _ ?_⟩
  focus exact HQL.out W hW
  clear hK K
  with_reducible refine wpQuiet_step ?_
  intro K hK
  go_simp
  first
    | refine hK _ ?_
    | refine ⟨_, fun _ _ => rfl, hK _ ?_⟩
  clear hK K
  with_reducible refine wpQuiet_step ?_
  intro K hK
  go_simp
  first
    | refine hK _ ?_
    | refine ⟨_, fun _ _ => rfl, hK _ ?_⟩
  clear hK K
  with_reducible refine wpQuiet_step ?_
  intro K hK
  go_simp
  first
    | refine hK _ ?_
    | refine ⟨_, fun _ _ => rfl, hK _ ?_⟩
  clear hK K
  with_reducible refine wpQuiet_nil ?_
  intro W4 hW4
  have HBq := Lib.hid (HC.out W4 hW4).2
  have HTq := Lib.hid (HC.out W4 hW4).1
  have HJ4 := Lib.hid (HJ.out.below (HC.out W4 hW4).2)
  obtain ⟨x0, x1, x2, x3, x4, x5, x6, x7⟩ := HTq.out.cells
  clear n1 n2 n3 n4 n5
  go_wp2_with fail
  clear x0 x1 x2 x3 x4 x5 x6 x7
  go_loopw [3, 37] (fun sv iv wr => ∃ i : Nat, iv = .int .i64 i ∧ i ≤ n ∧ sv = .string ⟨(textS p ⟨kg, ko, kn, kd, kc, kt⟩ f i).toArray⟩ ∧ Hid (Below W4.heap.size W4 wr)) (fun _ iv _ => n - (intOf iv).toNat)
  case atStart => exact ⟨0, rfl, Nat.zero_le _, congrArg Value.string (by show _ = (⟨(headL p ⟨kg, ko, kn, kd, kc, kt⟩).toArray⟩ : ByteArray); rw [HH.out]; exact ba_of_list (by simp [ByteArray.data_append])), Lib.hid (Below.refl _ _)⟩
  case round =>
    obtain ⟨i, rfl, hi, rfl, HBr⟩ := hrel
    by_cases hin : i < n
    · have hin' : (i : Int) < (n : Int) := by omega
      obtain ⟨q', cap', e, _, hcl⟩ := HJ4.out.below HBr.out
      cases e
      obtain ⟨b, off, rfl, e0, e1, e2, e3⟩ := hcl i hin
      clear hcl
      have HSJ := Lib.hid (fun w (hg : LaidAt w) => pshowjob (f i) (HOK.out.2.2.1 i hin) w hg)
      have hL := textS_len (f := f) HLN.out (n := i) (fun j hj => HOK.out.2.2.1 j (by omega))
      have hJ := jobL_len (HOK.out.2.2.1 i hin)
      have HS := Lib.hid (show textS p ⟨kg, ko, kn, kd, kc, kt⟩ f (i + 1) = textS p ⟨kg, ko, kn, kd, kc, kt⟩ f i ++ ([32, 91] ++ jobI (f i) ++ [93]) from by
        show _ ++ jobL (f i) = _
        unfold jobL jobI
        simp)
      have hJ2 : (jobI (f i)).length ≤ 57 := by
        have e : jobL (f i) = [32, 91] ++ jobI (f i) ++ [93] := by unfold jobL jobI; simp
        rw [e] at hJ
        simp at hJ
        omega
      clear hJ
      generalize textS p ⟨kg, ko, kn, kd, kc, kt⟩ f i = LL at *
      generalize jobI (f i) = SJ at *
      generalize f i = jb at *
      obtain ⟨l, c, a, d⟩ := jb
      dsimp only at e0 e1 e2 e3
      have hL2 : LL.length ≤ 600 := by omega
      have m0 : ¬ 9223372036854775807 < 2 + SJ.length := by omega
      have m1 : ¬ 9223372036854775807 < 2 + SJ.length + 1 := by omega
      have m2 : ¬ 9223372036854775807 < LL.length + (2 + SJ.length + 1) := by omega
      clear hL
      have HBa := Lib.hid (HBr.out.alloc HBr.out.size (.cells #[.int .i64 l, .int .i64 c, .int .i64 a, .int .i64 d] JT))
      go_wp2_with fail
      refine (HSJ.out _ (HG.out.below (bnext HBq.out HBa.out))).mono ?_
      rintro e w5 ⟨rfl, hb5⟩
      have HB5 := Lib.hid (bnext HBa.out hb5)
      clear hb5
      go_wp2_with fail
      go_roundw
      case rel => exact ⟨i + 1, by go_num, by omega, congrArg Value.string (by rw [HS.out]; exact ba_of_list (by simp [ByteArray.data_append])), HB5⟩
      case measure => simp [intOf]; omega
    · have hg3 : decide (i < n) = false := decide_eq_false hin
      obtain rfl : i = n := by omega
      have HB5 := Lib.hid (bnext HBq.out HBr.out)
      clear hin
      go_wp2_with fail
      go_ret
      exact ⟨rfl, HB5.out⟩
theorem pshow_no (p : Int) (s : Value) (n : Nat) (f : Nat → Jb) (k : Ac) (w : World) (h : Jobs w s n f) (hc : k.c ≤ 9223372036854775807) (hv : ¬ okT p n f k) : Calls Tryd.prog 16 #[tV p s k] w fun e w' => e = .returned (.string ⟨#[]⟩) ∧ Below w.heap.size w w' := by
  have HV := Lib.hid (fun w (h : Jobs w s n f) => pvalid p s n f k w h hc)
  rw [ok_no hv, errV_ne (by decide)] at HV
  have HJ := Lib.hid h
  obtain ⟨q, cap, rfl, _, _⟩ := h
  obtain ⟨kg, ko, kn, kd, kc, kt⟩ := k
  obtain ⟨WA, hWA⟩ : ∃ WA, WA = w.alloc (.cells #[.int .i64 p, .slice q n cap, .int .i64 kg, .int .i64 ko, .int .i64 kn, .int .i64 kd, .int .i64 kc, .int .i64 kt] KT) := ⟨_, rfl⟩
  have HB := Lib.hid (show Below w.heap.size w WA from by rw [hWA]; exact (Below.refl _ _).alloc (Nat.le_refl _) _)
  have HW := Lib.hid hWA
  clear hv hc hWA
  go_enter Tryd.func16, Tryd.ntmps16
  go_wp2_with fail
  rw [← HW.out]
  refine (HV.out _ (HJ.out.below HB.out)).mono ?_
  rintro e w1 ⟨rfl, hb1⟩
  have HB1 := Lib.hid (bnext HB.out hb1)
  clear hb1
  go_wp2_with fail
  go_ret
  exact ⟨rfl, HB1.out⟩
/-- Show, of every task. -/
theorem pshow_any (p : Int) (s : Value) (n : Nat) (f : Nat → Jb) (k : Ac) (w : World) (h : Jobs w s n f) (hc : k.c ≤ 9223372036854775807) (hg : LaidAt w) : Calls Tryd.prog 16 #[tV p s k] w fun e w' => e = .returned (.string ⟨(if okT p n f k then textS p k f n else []).toArray⟩) ∧ Below w.heap.size w w' := by
  by_cases hv : okT p n f k
  · rw [if_pos hv]; exact pshow_ok p s n f k w h hv hg
  · rw [if_neg hv]; exact pshow_no p s n f k w h hc hv
end Go.Proofs.YtpfhebfkhailfaaDoor
