/- The law FifoRuns: queues of every limit, whatever is done to them, go on as the document's; true at every limit and every row of acts; no condition but that the row can be read. -/
import Derived.Test.YtdpchojfgcjbeaaFRunsA
namespace Go.Proofs.Ytdpchojfgcjbeaa
open Go.RowKit Go.Shelf

set_option maxHeartbeats 4000000 in
set_option maxRecDepth 100000 in
theorem runs_any (limit : Int) (v : Value) (acts : List (Int × Int × Int)) (w : World) (h : ActsAt w v acts) :
    Calls Try.prog 3 #[.int .i64 limit, v] w fun e w' => e = .returned (.bool true) ∧ Below w.heap.size w w' := by
  obtain ⟨p, cap, rfl, hmax, hc⟩ := h
  have HC := Lib.hid hc
  clear hc
  have e0 := errV_0
  have e1 := errV_ne (n := 1) (by decide)
  by_cases hlim : limit < 1 ∨ 4096 < limit
  · have HN := Lib.hid (fun W => new_no_I W limit hlim)
    have HR := Lib.hid (fun W => rnew_no W limit hlim)
    clear hlim
    go_enter Try.func3, Try.ntmps3
    go_wp2_with fail
    refine (HN.out _).mono ?_
    rintro e w1 ⟨rfl, rfl⟩
    go_wp2_with fail
    refine (HR.out _).mono ?_
    rintro e w1 ⟨rfl, hb1⟩
    go_wp2_with fail
    refine (num_errno 1 _).mono ?_
    rintro e w2 ⟨rfl, rfl⟩
    go_wp2_with fail
    refine (works_any _).mono ?_
    rintro e w3 ⟨rfl, hb3⟩
    have hbb := bnext (hb1.alloc hb1.size _) hb3
    go_wp2_with fail
    go_ret
    exact ⟨rfl, hbb⟩
  · have h0 : 1 ≤ limit := by omega
    have h1 : limit ≤ 4096 := by omega
    have HN := Lib.hid (fun W => new_yes_I W limit h0 h1)
    have HR := Lib.hid (fun W => rnew_yes W limit h0 h1)
    clear hlim
    go_enter Try.func3, Try.ntmps3
    go_wp2_with fail
    refine (HN.out _).mono ?_
    rintro e w1 ⟨rfl, hw1⟩
    have hq1 : PQ QT_I ET_I 1 w.heap.size w1 ⟨limit, [], 0⟩ w.heap.size (.slice none 0 0) := hw1 ▸ PQ.new (Nat.le_refl _) limit
    have hbw1 : Below w.heap.size w w1 := hw1 ▸ (Below.refl _ w).alloc (Nat.le_refl _) _
    have HQ1 := Lib.hid hq1
    have HB1 := Lib.hid hbw1
    clear hw1 hq1 hbw1
    go_wp2_with fail
    refine (HR.out _).mono ?_
    rintro e w2 ⟨rfl, hb2⟩
    have HB2 := Lib.hid (bnext HB1.out hb2)
    have HQ2 := Lib.hid (HQ1.out.below hb2)
    clear hb2
    go_wp2_with fail
    refine (num_nil _).mono ?_
    rintro e w3 ⟨rfl, rfl⟩
    go_wp2_with fail
    have hI0 : RI w limit w.heap.size w2.heap.size 0 (w2.alloc (.cells #[.int .i64 limit, .slice none 0 0] RT)) :=
      ⟨⟨limit, [], 0⟩, .slice none 0 0, .slice none 0 0, [], HQ2.out.alloc _, good_new (by omega) h1, rfl, by simp, rfl, World.ownsRow_nil _ _ _ _, heap_alloc_new _ _, HB2.out.alloc HB2.out.size _, HB2.out.size⟩
    have HI0 := Lib.hid hI0
    clear hI0
    obtain ⟨mb, hmb⟩ : ∃ mb, w2.heap.size = mb := ⟨_, rfl⟩
    rw [hmb] at HI0 ⊢
    clear hmb
    go_loopw [9] (fun i wr => ∃ k : Nat, i = .int .i64 k ∧ k ≤ acts.length ∧ Hid (RI w limit w.heap.size mb k wr)) (fun i _ => acts.length - (intOf i).toNat)
    case atStart => exact ⟨0, rfl, Nat.zero_le _, HI0⟩
    case round =>
      obtain ⟨k, rfl, hk, HI⟩ := hrel
      by_cases hlt : k < acts.length
      · obtain ⟨A, s, u, L, hq, hA, hlimA, hlast, hl, hn, hbox, hbel, hmbB⟩ := HI.out
        obtain ⟨pu, cu, rfl, _⟩ := own_small hn
        rw [List.length_map] at hn hbox
        obtain ⟨⟨a0, a1, a2⟩, hact⟩ : ∃ a, acts[k] = a := ⟨_, rfl⟩
        obtain ⟨b, off, rfl, ca0, ca1, ca2⟩ := HC.out k a0 a1 a2 (by rw [List.getElem?_eq_getElem hlt, hact])
        have hbl := cell_lt ca0
        have hblw : b < wr.heap.size := Nat.lt_of_lt_of_le hbl hbel.size
        replace ca0 := (hbel.cell (p := ⟨b, off + k * 3, none⟩) hbl).trans ca0
        replace ca1 := (hbel.cell (p := ⟨b, off + k * 3 + 1, none⟩) hbl).trans ca1
        replace ca2 := (hbel.cell (p := ⟨b, off + k * 3 + 2, none⟩) hbl).trans ca2
        have cm0 : wr.cell? ⟨mb, 0, none⟩ = some (.int .i64 limit) := (cell_of_row _ _ _ _ _ _ hbox).trans rfl
        have cm1 : wr.cell? ⟨mb, 1, none⟩ = some (.slice pu L.length cu) := (cell_of_row _ _ _ _ _ _ hbox).trans rfl
        have hmlt := lt_of_block hbox
        have hnm := hq.other hbox (by decide) (by decide)
        simp only at hbl
        have hnb : ¬ (b = w.heap.size ∨ s.ownBlock = some b) := by
          rintro (rfl | e)
          · have := hq.hb; omega
          · have := (hq.own.lt b e).1; omega
        have HX := Lib.hid (show ∀ W, Keeps (fun x => x = w.heap.size ∨ s.ownBlock = some x) wr W → (W.cell? ⟨mb, 0, none⟩ = some (.int .i64 limit) ∧ W.cell? ⟨mb, 1, none⟩ = some (.slice pu L.length cu) ∧
            W.cell? ⟨b, off + k * 3, none⟩ = some (.int .i64 a0) ∧ W.cell? ⟨b, off + k * 3 + 1, none⟩ = some (.int .i64 a1) ∧ W.cell? ⟨b, off + k * 3 + 2, none⟩ = some (.int .i64 a2) ∧ Keeps (fun x => x = w.heap.size ∨ s.ownBlock = some x) wr W) from fun W hW =>
          ⟨(hW.cell (p := ⟨mb, 0, none⟩) hmlt hnm).trans cm0, (hW.cell (p := ⟨mb, 1, none⟩) hmlt hnm).trans cm1,
            (hW.cell (p := ⟨b, off + k * 3, none⟩) hblw hnb).trans ca0, (hW.cell (p := ⟨b, off + k * 3 + 1, none⟩) hblw hnb).trans ca1, (hW.cell (p := ⟨b, off + k * 3 + 2, none⟩) hblw hnb).trans ca2, hW⟩)
        have HDO := Lib.hid (fun W (hb : Below wr.heap.size wr W) => do_one w.heap.size W A hA L hl w.heap.size s (.slice pu L.length cu) (hq.below hb) (Nat.le_trans hbel.size hb.size) (own_below hn hb) (by omega) a0 a1 a2 limit ((k + 1 : Nat) : Int) hlimA (by omega))
        have HN2 := Lib.hid (fun W (hk : Keeps (fun x => x = w.heap.size ∨ s.ownBlock = some x) (wr.drew.alloc (.cells #[.int .i64 0, .slice none 0 0] RT)) W) => new2 hk ((hq.drew.alloc (.cells #[.int .i64 0, .slice none 0 0] RT)).other (heap_alloc_new wr.drew _) (by decide) (by decide)))
        have HQ := Lib.hid hq
        have HBX := Lib.hid hbox
        have HBL := Lib.hid hbel
        have z0 : (0 : Int) ≤ (k : Int) := by omega
        have z1 : (k : Int) < (acts.length : Int) := by omega
        have z2 : (k : Int) + 1 ≤ 9223372036854775807 := by omega
        clear hq hA hlimA hlast hl hn hbox hbel hact hbl ca0 ca1 ca2 cm0 cm1 hnm hnb
        go_upto_region 10 with fail
        go_cut [10, 11] from 42 to 51 (fun s10 s11 wx => s11 = .bool true ∧ ∃ nb, s10 = .pointer (some ⟨nb, 0, none⟩) ∧ Hid (RX w limit w.heap.size mb nb (k + 1) wx))
        case first =>
          go_region_held3 (fun w' => w'.cell? ⟨mb, 0, none⟩ = some (.int .i64 limit) ∧ w'.cell? ⟨mb, 1, none⟩ = some (.slice pu L.length cu) ∧
              w'.cell? ⟨b, off + k * 3, none⟩ = some (.int .i64 a0) ∧ w'.cell? ⟨b, off + k * 3 + 1, none⟩ = some (.int .i64 a1) ∧ w'.cell? ⟨b, off + k * 3 + 2, none⟩ = some (.int .i64 a2) ∧ Keeps (fun x => x = w.heap.size ∨ s.ownBlock = some x) wr w')
            (first | exact HX.out _ (Keeps.refl _ _) | exact HX.out _ (Keeps.refl _ _).drew | exact HX.out _ ((Keeps.refl _ _).drew.alloc _) | exact HX.out _ ((Keeps.refl _ _).alloc _) | (go_split_ands; exact HX.out _ (Keeps.trans (by assumption) hk3)) | exact HX.out _ ((Keeps.trans ((Keeps.refl _ wr).drew) hk3).alloc _) | exact HX.out _ (((Keeps.trans ((Keeps.refl _ wr).drew.alloc _) hk3).setCell _ _ (.inr (Nat.le_refl _))).setCell _ _ (.inr (Nat.le_refl _))))
            (first
              | (go_at_call 12; refine (HDO.out _ ((Below.refl _ _).drew.alloc (Nat.le_refl _) _)).mono ?_; rintro e w3 ⟨A3, L3, p3, c3, rfl, hA3, hm3, hl3, he3, hn3, s3, hq3, hk3⟩; have HA3 := Lib.hid hA3; have HM3 := Lib.hid hm3; have HL3 := Lib.hid hl3; have HE3 := Lib.hid he3; have HN3 := Lib.hid hn3; have HQ3 := Lib.hid hq3; clear hA3 hm3 hl3 he3 hn3 hq3; obtain ⟨y0, y1, yf0, yf1⟩ := HN2.out _ hk3)
              | (go_at_call 12; refine (HDO.out _ (Below.refl _ _).drew).mono ?_; rintro e w3 ⟨A3, L3, p3, c3, rfl, hA3, hm3, hl3, he3, hn3, s3, hq3, hk3⟩; have HA3 := Lib.hid hA3; have HM3 := Lib.hid hm3; have HL3 := Lib.hid hl3; have HE3 := Lib.hid he3; have HN3 := Lib.hid hn3; have HQ3 := Lib.hid hq3; clear hA3 hm3 hl3 he3 hn3 hq3))
          all_goals
            go_wp2_with fail
            go_meet
          · exact ⟨rfl, _, rfl, Lib.hid (rx_1 HQ.out HBX.out HBL.out hmbB HA3.out HM3.out HL3.out HE3.out HN3.out HQ3.out hk3)⟩
          · exact ⟨rfl, _, rfl, Lib.hid (rx_2 HQ.out HBX.out HBL.out hmbB HA3.out HM3.out HL3.out HE3.out HN3.out HQ3.out hk3)⟩
        case rest =>
          obtain ⟨W5, rfl⟩ : ∃ W5 : World, W5 = wc := ⟨_, rfl⟩
          obtain ⟨rfl, nb, rfl, hX⟩ := hcut
          obtain ⟨A5, s5, p5, c5, u5, L5, hA5, hm5, he5, n0, n1, m0, m1, mf0, mf1, hq5, hn5, m0', m1', hmb5, hnb5, hI5⟩ := rx_in hX.out
          have HAL := Lib.hid (alike_any w.heap.size _ A5 hA5 w.heap.size s5 (.slice p5 L5.length c5) (L5.map (·.1)) hq5 (by rw [he5, ent_map]) hn5)
          rw [hm5] at HAL
          have HI5 := Lib.hid hI5
          clear hA5 hm5 he5 hq5 hn5 hI5 HX HDO HN2 hX
          go_wp2_with fail
          refine HAL.out.mono ?_
          rintro e w6 ⟨rfl, hb6⟩
          have HI6 := Lib.hid (ri_below HI5.out hb6)
          clear hb6 m0 m1 m0' m1' n0 n1 mf0 mf1
          go_wp2_with fail
          go_roundw
          case rel => exact ⟨k + 1, by go_num, by omega, HI6⟩
          case measure => simp [intOf]; omega
      · have hb := Lib.hid (by obtain ⟨A, s, u, L, _, _, _, _, _, _, _, hb, _⟩ := HI.out; exact hb : Below w.heap.size w wr)
        go_wp2_with fail
        refine (works_any _).mono ?_
        rintro e w3 ⟨rfl, hb3⟩
        have hbb := bnext hb.out hb3
        go_wp2_with fail
        go_ret
        exact ⟨rfl, hbb⟩
end Go.Proofs.Ytdpchojfgcjbeaa
