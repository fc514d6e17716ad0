/- The law FifoJobs: queues of jobs are compared whole and kept by what they are; true at every row of jobs and every number; no condition but that the row can be read. -/
import Derived.Test.YtdpchojfgcjbeaaFJobsA
import Derived.Deep.QuietTactic
import Derived.BigQuiet
namespace Go.Proofs.Ytdpchojfgcjbeaa
open Go.RowKit Go.Shelf

/-- The loop's relation. -/
def JRel (w : World) (least : Int) (l : List Jb) (k : Nat) (W : World) : Prop := ∃ A P s t L, JI w least l k k W A P s t L

set_option maxHeartbeats 4000000 in
set_option maxRecDepth 100000 in
theorem jobs_any (v : Value) (l : List Jb) (least : Int) (w : World) (h : JobsJ w v l) :
    Calls Try.prog 7 #[v, .int .i64 least] w fun e w' => e = .returned (.bool true) ∧ Below w.heap.size w w' := by
  obtain ⟨p, cap, rfl, hmax, hc⟩ := h
  have HC := Lib.hid hc
  have e0 := errV_0
  clear hc
  by_cases h50 : (50 : Int) < (l.length : Int)
  · go_enter Try.func7, Try.ntmps7
    go_wp2_with fail
    refine (works_any _).mono ?_
    rintro e w1 ⟨rfl, hb⟩
    have HB := Lib.hid (bnext ((Below.refl w.heap.size w).alloc (Nat.le_refl _) (.cells #[.int .i64 least] 3)) hb)
    clear hb
    go_wp2_with fail
    go_ret
    exact ⟨rfl, HB.out⟩
  · have hn : l.length ≤ 50 := by omega
    have HS := Lib.hid (JI.start w least l)
    go_enter Try.func7, Try.ntmps7
    go_wp2_with fail
    refine (new_yes_J _ 50 (by omega) (by omega)).mono ?_
    rintro e w1 ⟨rfl, hw1⟩
    have HW1 := Lib.hid hw1
    clear hw1
    go_wp2_with fail
    refine (new_yes_J _ 50 (by omega) (by omega)).mono ?_
    rintro e w2 ⟨rfl, hw2⟩
    have hs1 : w1.heap.size = w.heap.size + 2 := by rw [HW1.out]; simp
    have hR0 : JRel w least l 0 w2 := by
      rw [hw2, HW1.out]
      exact ⟨_, _, _, _, _, HS.out⟩
    have HR0 := Lib.hid hR0
    rw [hs1]
    clear hw2 hR0 HS hs1 HW1
    go_wp2_with fail
    go_loopw [9, 10] (fun c i wr => ∃ k : Nat, i = .int .i64 k ∧ c = .int .i64 (cnt least l k) ∧ k ≤ l.length ∧ Hid (JRel w least l k wr)) (fun _ i _ => l.length - (intOf i).toNat)
    case atStart => exact ⟨0, rfl, rfl, Nat.zero_le _, HR0⟩
    case round =>
      obtain ⟨k, rfl, rfl, hk, HR⟩ := hrel
      have hcl := cnt_le least l k
      by_cases hlt : k < l.length
      · obtain ⟨A, P, s, t, L, hI⟩ := HR.out
        obtain ⟨hAl, hPl⟩ := hI.len hk hk
        obtain ⟨x, hx⟩ : ∃ x, l[k]? = some x := ⟨_, List.getElem?_eq_getElem hlt⟩
        obtain ⟨b, off, rfl, ca, cb, cc, cd⟩ := HC.out k x hx
        have hbl := cell_lt ca
        simp only at hbl
        have hAr : (A.l.length : Int) < A.limit := by rw [hI.lq]; omega
        have hPr : (P.l.length : Int) < P.limit := by rw [hI.lp]; omega
        have hla := hI.la
        have hlap := hI.lap
        have HPQ := Lib.hid (push_yes_J w.heap.size A hI.gq wr (w.heap.size + 1) s hI.q x (by omega) (by omega) hI.bel.size)
        have HCE := Lib.hid (fun W (hb : Below w.heap.size w W) => (⟨(hb.cell (p := ⟨b, off + k * 4, none⟩) hbl).trans ca, (hb.cell (p := ⟨b, off + k * 4 + 1, none⟩) hbl).trans cb, (hb.cell (p := ⟨b, off + k * 4 + 2, none⟩) hbl).trans cc, (hb.cell (p := ⟨b, off + k * 4 + 3, none⟩) hbl).trans cd⟩ :
          W.cell? ⟨b, off + k * 4, none⟩ = some (.int .i64 x.a) ∧ W.cell? ⟨b, off + k * 4 + 1, none⟩ = some (.int .i64 x.b) ∧ W.cell? ⟨b, off + k * 4 + 2, none⟩ = some (.int .i64 x.c) ∧ W.cell? ⟨b, off + k * 4 + 3, none⟩ = some (.int .i64 x.d)))
        obtain ⟨c0, c1, c2, c3⟩ := HCE.out wr hI.bel
        have HI := Lib.hid hI
        have HX := Lib.hid hx
        have HAR := Lib.hid hAr
        have HPR := Lib.hid hPr
        have z0 : (0 : Int) ≤ (k : Int) := by omega
        have z1 : (k : Int) < (l.length : Int) := by omega
        have y1 : (cnt least l k : Int) + 1 ≤ 51 := by omega
        clear hI hx ca cb cc cd hAl hPl hAr hPr hla
        go_wp2_with fail
        refine HPQ.out.mono ?_
        rintro e w1 ⟨rfl, s', hq', hk', hs'⟩
        have hI2 := HI.out.step_q HX.out HAR.out hq' hk' hs'
        clear hq' hk' hs' c0 c1 c2 c3
        obtain ⟨c0, c1, c2, c3⟩ := HCE.out w1 hI2.bel
        have cbx := hI2.box.cell
        have HI2 := Lib.hid hI2
        clear hI2
        go_wp2_with fail
        cases hl : lng least x with
        | true =>
          have hd : least ≤ x.a := by simpa [lng] using hl
          have HPP := Lib.hid (fun W (hb : Below w1.heap.size w1 W) => push_yes_J w.heap.size P HI.out.gp W (w.heap.size + 2) t (HI2.out.below hb).p x (by omega) HPR.out (Nat.le_trans HI2.out.bel.size hb.size))
          have HL := Lib.hid hl
          clear hl
          go_quiet (fail)
          have hb3 := below_drewN (Below.refl w1.heap.size w1) nq
          have HI3 := Lib.hid (HI2.out.below hb3)
          have HB3 := Lib.hid hb3
          clear hb3
          go_wp2_with fail
          refine (HPP.out _ HB3.out).mono ?_
          rintro e w4 ⟨rfl, t', hq', hk', hs'⟩
          have HI4 := Lib.hid (HI3.out.step_p HX.out HL.out HPR.out hq' hk' hs')
          clear hq' hk' hs'
          go_wp2_with fail
          go_roundw
          case rel => exact ⟨k + 1, by go_num, by rw [cnt_yes HX.out HL.out]; go_num, by omega, Lib.hid ⟨_, _, _, _, _, HI4.out⟩⟩
          case measure => simp [intOf]; omega
        | false =>
          have hd : ¬ least ≤ x.a := by simpa [lng] using hl
          have HL := Lib.hid hl
          clear hl
          go_quiet (fail)
          have HI3 := Lib.hid ((HI2.out.below (below_drewN (Below.refl w1.heap.size w1) nq)).step_skip HX.out HL.out)
          go_wp2_with fail
          go_roundw
          case rel => exact ⟨k + 1, by go_num, by rw [cnt_no HX.out HL.out], by omega, Lib.hid ⟨_, _, _, _, _, HI3.out⟩⟩
          case measure => simp [intOf]; omega
      · obtain rfl : k = l.length := by omega
        obtain ⟨A, P, s, t, L, hI⟩ := HR.out
        have HKP := Lib.hid (keep_law hI hn)
        have hsz := hI.sz
        have y0 : (0 : Int) ≤ (cnt least l l.length : Int) := by omega
        have y1 : (cnt least l l.length : Int) ≤ (l.length : Int) := by omega
        clear hI hlt
        go_wp2_with fail
        refine HKP.out.mono ?_
        rintro e w4 ⟨rfl, hab, hE⟩
        have ca := hab.cell
        have HS := Lib.hid (same_len_J w4 _ _ 50 _ _ hE.1 hE.2.1 (fun _ => rfl))
        rw [decide_eq_true rfl] at HS
        have HBE := Lib.hid hE.2.2
        have t1 : (((l.length : Int) - (cnt least l l.length : Int)) == ((l.length : Int) - (cnt least l l.length : Int))) = true := by simp
        have t2 : ((l.length : Int) == (l.length : Int)) = true := by simp
        clear hab hE
        go_wp2_with fail
        refine HS.out.mono ?_
        rintro e w5 ⟨rfl, hb5⟩
        have HB5 := Lib.hid (bnext HBE.out hb5)
        clear hb5
        go_wp2_with fail
        refine (works_any _).mono ?_
        rintro e w6 ⟨rfl, hb6⟩
        have HB6 := Lib.hid (bnext HB5.out hb6)
        clear hb6
        go_wp2_with fail
        go_ret
        exact ⟨rfl, HB6.out⟩
end Go.Proofs.Ytdpchojfgcjbeaa
