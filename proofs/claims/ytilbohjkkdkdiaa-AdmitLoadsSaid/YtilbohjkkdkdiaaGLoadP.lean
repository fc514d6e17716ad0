/- The program's mayBe and Load; no condition but those that each row names. -/
import Derived.Test.YtilbohjkkdkdiaaGLd
import Derived.Test.YtilbohjkkdkdiaaGSum
import Derived.Test.YtilbohjkkdkdiaaGCls
import Derived.Test.YtilbohjkkdkdiaaGLawA
namespace Go.Proofs.Ytilbohjkkdkdiaa
open Go.RowKit

set_option maxHeartbeats 1000000 in
theorem may_yes (s n x : Int) (d : Bool) (w : World) (h : may ⟨s, n, x, d⟩) : Calls Try.prog 35 #[.agg #[.int .i64 s, .int .i64 n, .int .i64 x, .bool d]] w fun e w' => e = .returned (.bool true) ∧ Below w.heap.size w w' := by
  obtain ⟨h0, h1, h2, h3, h4, h5⟩ := h
  simp only at h0 h1 h2 h3 h4 h5
  have HS := Lib.hid fun w => slot_yes s w h0 h1
  have HN := Lib.hid fun w => share_yes n w h2 h3
  by_cases hx : x = 0
  · subst hx
    go_enter Try.func35, Try.ntmps35
    go_wp2_with fail
    refine (HS.out _).mono ?_
    rintro e w1 ⟨rfl, rfl⟩
    go_wp2_with fail
    refine (HN.out _).mono ?_
    rintro e w1 ⟨rfl, rfl⟩
    go_wp2_with fail
    go_ret
    exact ⟨rfl, (by repeat (first | exact Below.refl _ _ | (with_reducible assumption) | refine Below.drew ?_ | (refine Below.alloc ?_ (by first | exact Nat.le_refl _ | omega | (simp; done) | (simp; omega)) _) | (refine Below.setCell ?_ (by first | omega | (simp; done) | (simp; omega)) _)))⟩
  · have HX := Lib.hid fun w => share_yes x w (by omega) h5
    have hx0 : (x == 0) = false := by simpa using hx
    clear hx
    go_enter Try.func35, Try.ntmps35
    go_wp2_with fail
    refine (HS.out _).mono ?_
    rintro e w1 ⟨rfl, rfl⟩
    go_wp2_with fail
    refine (HN.out _).mono ?_
    rintro e w1 ⟨rfl, rfl⟩
    go_wp2_with fail
    refine (HX.out _).mono ?_
    rintro e w1 ⟨rfl, rfl⟩
    go_wp2_with fail
    go_ret
    exact ⟨rfl, (by repeat (first | exact Below.refl _ _ | (with_reducible assumption) | refine Below.drew ?_ | (refine Below.alloc ?_ (by first | exact Nat.le_refl _ | omega | (simp; done) | (simp; omega)) _) | (refine Below.setCell ?_ (by first | omega | (simp; done) | (simp; omega)) _)))⟩
set_option maxHeartbeats 1000000 in
theorem may_no (s n x : Int) (d : Bool) (w : World) (h : ¬ may ⟨s, n, x, d⟩) : Calls Try.prog 35 #[.agg #[.int .i64 s, .int .i64 n, .int .i64 x, .bool d]] w fun e w' => e = .returned (.bool false) ∧ Below w.heap.size w w' := by
  unfold may at h
  simp only at h
  by_cases h1 : 0 ≤ s ∧ s < 64
  · have HS := Lib.hid fun w => slot_yes s w h1.1 h1.2
    by_cases h2 : 1 ≤ n ∧ n ≤ 1048576
    · have HN := Lib.hid fun w => share_yes n w h2.1 h2.2
      have HX := Lib.hid fun w => share_no x w (by omega)
      have hx0 : (x == 0) = false := by simp; omega
      clear h h1 h2
      go_enter Try.func35, Try.ntmps35
      go_wp2_with fail
      refine (HS.out _).mono ?_
      rintro e w1 ⟨rfl, rfl⟩
      go_wp2_with fail
      refine (HN.out _).mono ?_
      rintro e w1 ⟨rfl, rfl⟩
      go_wp2_with fail
      refine (HX.out _).mono ?_
      rintro e w1 ⟨rfl, rfl⟩
      go_wp2_with fail
      go_ret
      exact ⟨rfl, (by repeat (first | exact Below.refl _ _ | (with_reducible assumption) | refine Below.drew ?_ | (refine Below.alloc ?_ (by first | exact Nat.le_refl _ | omega | (simp; done) | (simp; omega)) _) | (refine Below.setCell ?_ (by first | omega | (simp; done) | (simp; omega)) _)))⟩
    · have HN := Lib.hid fun w => share_no n w (by omega)
      clear h h1 h2
      go_enter Try.func35, Try.ntmps35
      go_wp2_with fail
      refine (HS.out _).mono ?_
      rintro e w1 ⟨rfl, rfl⟩
      go_wp2_with fail
      refine (HN.out _).mono ?_
      rintro e w1 ⟨rfl, rfl⟩
      go_wp2_with fail
      go_ret
      exact ⟨rfl, (by repeat (first | exact Below.refl _ _ | (with_reducible assumption) | refine Below.drew ?_ | (refine Below.alloc ?_ (by first | exact Nat.le_refl _ | omega | (simp; done) | (simp; omega)) _) | (refine Below.setCell ?_ (by first | omega | (simp; done) | (simp; omega)) _)))⟩
  · have HS := Lib.hid fun w => slot_no s w (by omega)
    clear h h1
    go_enter Try.func35, Try.ntmps35
    go_wp2_with fail
    refine (HS.out _).mono ?_
    rintro e w1 ⟨rfl, rfl⟩
    go_wp2_with fail
    go_ret
    exact ⟨rfl, (by repeat (first | exact Below.refl _ _ | (with_reducible assumption) | refine Below.drew ?_ | (refine Below.alloc ?_ (by first | exact Nat.le_refl _ | omega | (simp; done) | (simp; omega)) _) | (refine Below.setCell ?_ (by first | omega | (simp; done) | (simp; omega)) _)))⟩

/-- What Load answers. -/
def LoadP (w : World) (L : List Cl) (e : Ending) (w' : World) : Prop := Below w.heap.size w w' ∧ ((loadE L = 0 ∧ ∃ f, e = .returned (.tuple #[.pointer (some ⟨w.heap.size, 0, none⟩), .nilIface]) ∧ BK BT w' w.heap.size f ∧ Good f ∧ lst f 0 64 = L) ∨ (loadE L ≠ 0 ∧ e = .returned (.tuple #[.pointer none, errV (loadE L)])))
theorem load_bad {w w' : World} {L : List Cl} {n : Int} (hb : Below w.heap.size w w') (h : loadE L = n) (hn : n ≠ 0) : LoadP w L (.returned (.tuple #[.pointer none, .iface 69 (.int .i64 n)])) w' :=
  ⟨hb, .inr ⟨by rw [h]; exact hn, by rw [h, errV_ne hn]⟩⟩
theorem loadE_scan {L : List Cl} {n : Int} (h : scan (-1) L = n) (hn : n ≠ 0) : loadE L = n := by unfold loadE; rw [h, if_neg hn]
theorem lsum_in' {f : Nat → Cl} {P : List Cl} {a : Int} (h : Lod f P a) : 0 ≤ lsum P ∧ lsum P ≤ 67108864 := by
  have := sumTo_small h.small 64 (by omega)
  rw [h.sum] at this
  omega
/-- What the loop carries. -/
def LdI (w : World) (L : List Cl) (k : Nat) (a : Int) (f : Nat → Cl) (wr : World) : Prop := scan (-1) (L.take k) = 0 ∧ lastS (-1) (L.take k) = a ∧ Lod f (L.take k) a ∧ BK BT wr w.heap.size f ∧ Below w.heap.size w wr

set_option maxHeartbeats 4000000 in
set_option maxRecDepth 100000 in
theorem load_any (w : World) (v : Value) (L : List Cl) (h : Rd w v L) : Calls Try.prog 13 #[v] w (LoadP w L) := by
  have HN := Lib.hid fun w => new_any w
  have H1 := Lib.hid (show LdI w L 0 (-1) (fun _ => zc) (w.alloc (.cells (arr (fun _ => zc)) BT)) from ⟨rfl, rfl, Lod.start, BK.new BT w (fun _ => zc), (Below.refl w.heap.size w).alloc (Nat.le_refl _) (.cells (arr (fun _ => zc)) BT)⟩)
  obtain ⟨p, cap, rfl, hl, hc⟩ := h
  have HC := Lib.hid hc
  clear hc
  go_enter Try.func13, Try.ntmps13
  go_wp2_with fail
  refine (HN.out _).mono ?_
  rintro e w1 ⟨rfl, hw1⟩
  rw [← hw1] at H1
  clear hw1 HN
  go_wp2_with fail
  go_loopw [5, 11] (fun av i wr => ∃ (k : Nat) (a : Int) (f : Nat → Cl), k ≤ L.length ∧ i = .int .i64 k ∧ av = .int .i64 a ∧ Hid (LdI w L k a f wr)) (fun _ i _ => L.length - (intOf i).toNat)
  case atStart => exact ⟨0, -1, _, by omega, rfl, rfl, H1⟩
  case round =>
    obtain ⟨k, a, f, hk, rfl, rfl, HE⟩ := hrel
    clear H1
    have ha0 := HE.out.2.2.1.a0
    have ha1 := HE.out.2.2.1.a1
    by_cases hlt : k < L.length
    · have hlt' : (k : Int) < (L.length : Int) := by omega
      have hk0 : (0 : Int) ≤ (k : Int) := by omega
      obtain ⟨b', off, rfl, c0, c1, c2, c3⟩ := HC.out k hlt
      have d0 := (HE.out.2.2.2.2.cell (cell_lt c0)).trans c0
      have d1 := (HE.out.2.2.2.2.cell (cell_lt c1)).trans c1
      have d2 := (HE.out.2.2.2.2.cell (cell_lt c2)).trans c2
      have d3 := (HE.out.2.2.2.2.cell (cell_lt c3)).trans c3
      have HSA := Lib.hid (fun hb => scan_at hlt HE.out.1 hb)
      have HST := Lib.hid (fun h1 h2 => scan_take hlt HE.out.1 h1 h2)
      have HTK := Lib.hid (List.take_succ_eq_append_getElem hlt)
      have HLA := Lib.hid HE.out.2.1
      clear c0 c1 c2 c3
      generalize L[k] = c at *
      obtain ⟨cs, cn, cx, cd⟩ := c
      simp only at d0 d1 d2 d3
      have HB1 := Lib.hid (HE.out.2.2.2.1.alloc (.cells #[.int .i64 cs, .int .i64 cn, .int .i64 cx, .bool cd] 35))
      have HW1 := Lib.hid (HE.out.2.2.2.2.alloc HE.out.2.2.2.2.size (.cells #[.int .i64 cs, .int .i64 cn, .int .i64 cx, .bool cd] 35))
      have HC1 := Lib.hid (C4.new 35 wr cs cn cx cd)
      have HLOD := Lib.hid HE.out.2.2.1
      clear HE
      by_cases hm : may ⟨cs, cn, cx, cd⟩
      · have HM := Lib.hid hm
        have HMY := Lib.hid fun w => may_yes cs cn cx cd w hm
        by_cases hs : cs ≤ a
        · have HL := Lib.hid (loadE_scan ((HSA.out (fun h => by have := h.2; rw [HLA.out] at this; simp only at this; omega)).trans (if_pos hm)) (by decide))
          clear hm
          go_wp2_with fail
          refine (HMY.out _).mono ?_
          rintro e w2 ⟨rfl, hb2⟩
          have HW2 := Lib.hid (bnext HW1.out hb2)
          obtain ⟨g0, g1, g2, g3⟩ := (HC1.out.below hb2).cells
          have gl := (HC1.out.below hb2).lt
          clear hb2
          go_wp2_with fail
          go_ret2
          exact load_bad HW2.out HL.out (by decide)
        · have hs' : decide (cs ≤ a) = false := decide_eq_false hs
          have hcs0 : 0 ≤ cs := hm.1
          have hcs1 : cs < 64 := hm.2.1
          obtain ⟨ks, rfl⟩ : ∃ ks : Nat, cs = ks := ⟨cs.toNat, by omega⟩
          have hks : ks < 64 := by omega
          have HLO := Lib.hid (HLOD.out.step hm (by simp only; omega))
          have HSC := Lib.hid (HST.out hm (by rw [HLA.out]; simp only; omega))
          clear hm hs
          simp only [Int.toNat_natCast] at HLO
          go_wp2_with fail
          refine (HMY.out _).mono ?_
          rintro e w2 ⟨rfl, hb2⟩
          have hW2 := bnext HW1.out hb2
          have hB2 := HB1.out.below hb2
          obtain ⟨g0, g1, g2, g3⟩ := (HC1.out.below hb2).cells
          have gl := (HC1.out.below hb2).lt
          obtain ⟨r0, r1, r2, r3⟩ := hB2.cells ks hks
          have f0 := hB2.free (ks * 4)
          have f1 := hB2.free (ks * 4 + 1)
          have f2 := hB2.free (ks * 4 + 2)
          have f3 := hB2.free (ks * 4 + 3)
          have hbl := hB2.lt
          have hS := hB2.set ks ⟨ks, cn, cx, cd⟩
          simp only at hS
          have HS := Lib.hid hS
          have HK := Lib.hid (kset (o := ks * 4 + 3) (kset (o := ks * 4 + 2) (kset (o := ks * 4 + 1) (kset (o := ks * 4) (Keeps.refl (fun x => x = w.heap.size) w2) (.int .i64 ks)) (.int .i64 cn)) (.int .i64 cx)) (.bool cd))
          have HW2 := Lib.hid hW2
          have hne : wr.heap.size ≠ w.heap.size := HB1.out.ne4 HC1.out
          clear hb2 hW2 hB2 hS
          go_wp2_with fail
          go_region
          all_goals
            go_wp2_with fail
            go_roundw
            case rel => exact ⟨k + 1, ks, _, by omega, by go_num, rfl, Lib.hid ⟨HSC.out.1, HSC.out.2, by rw [HTK.out]; exact HLO.out, HS.out.drew, (turn_below HW2.out (Nat.le_refl _) HW2.out.size HK.out.drew)⟩⟩
            case measure => simp [intOf]; omega
      · have HMN := Lib.hid fun w => may_no cs cn cx cd w hm
        have HL := Lib.hid (loadE_scan ((HSA.out (fun h => hm h.1)).trans (if_neg hm)) (by decide))
        clear hm
        go_wp2_with fail
        refine (HMN.out _).mono ?_
        rintro e w2 ⟨rfl, hb2⟩
        have HW2 := Lib.hid (bnext HW1.out hb2)
        clear hb2
        go_wp2_with fail
        go_ret2
        exact load_bad HW2.out HL.out (by decide)
    · obtain rfl : k = L.length := by omega
      have hg3 : decide (L.length < L.length) = false := decide_eq_false (by omega)
      have htk : L.take L.length = L := List.take_of_length_le (Nat.le_refl _)
      have hE := HE.out
      unfold LdI at hE
      rw [htk] at hE
      obtain ⟨h1, h2, h3, h4, h5⟩ := hE
      have HSUM := Lib.hid fun W (hb : BK BT W w.heap.size f) => (by have := sum_book w.heap.size f W hb h3.small; rwa [h3.sum] at this : Calls Try.prog 23 #[.pointer (some ⟨w.heap.size, 0, none⟩)] W fun e w' => e = .returned (.int .i64 (lsum L)) ∧ Below W.heap.size W w')
      have HH1 := Lib.hid h1
      have HH3 := Lib.hid h3
      have HH4 := Lib.hid h4
      have HH5 := Lib.hid h5
      have HS := Lib.hid (show scan (-1) L = 0 → loadE L = if 1048576 < lsum L then 270 else 0 from fun h => by unfold loadE; rw [if_pos h])
      have HG := Lib.hid (fun hs => h3.good hs)
      have hls := (lsum_in' h3)
      generalize lsum L = S at *
      clear hlt HE htk h1 h2 h3 h4 h5
      go_wp2_with fail
      refine (HSUM.out _ HH4.out).mono ?_
      rintro e w2 ⟨rfl, hb2⟩
      have HB2 := Lib.hid (HH4.out.below hb2)
      have HW2 := Lib.hid (bnext HH5.out hb2)
      clear hb2
      by_cases ho : 1048576 < S
      · have HL := Lib.hid ((HS.out HH1.out).trans (if_pos ho))
        go_wp2_with fail
        go_ret2
        exact load_bad HW2.out HL.out (by decide)
      · have ho' : decide (1048576 < S) = false := decide_eq_false ho
        have HL := Lib.hid ((HS.out HH1.out).trans (if_neg ho))
        have HG2 := Lib.hid (HG.out (by omega))
        clear ho
        go_wp2_with fail
        go_ret2
        exact ⟨HW2.out, .inl ⟨HL.out, f, rfl, HB2.out, HG2.out, HH3.out.ls⟩⟩
end Go.Proofs.Ytilbohjkkdkdiaa
