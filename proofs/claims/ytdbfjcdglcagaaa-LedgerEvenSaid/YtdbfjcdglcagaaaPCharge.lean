/- The program's book: Charge; no condition but those that each row names. -/
import Derived.Test.YtdbfjcdglcagaaaPLeads
namespace Go.Proofs.Ytdbfjcdglcagaaa
open Go.RowKit Go.Maps Bk

theorem VMap.no_cell {w : World} {b n o : Nat} {F : Int → Option Value} (h : VMap Try.prog HT w b F n) : w.cell? ⟨b, o, none⟩ = none := by
  obtain ⟨es, clock, hb⟩ := h.shape
  simp [World.cell?, hb]
theorem fld_acc (x : Ln) (W : World) : (Instr.field 43 (pV x) 1).run Try.prog W = .ok (aV x.a) W := by kernel_rfl
theorem fld_giv (a : Ac) (W : World) : (Instr.field 29 (aV a) 0).run Try.prog W = .ok (.int .i64 a.g) W := by kernel_rfl
theorem get_incs {L : List Ln} {f : Nat → Int} {k : Int} {x : Ln} (hx : getB L k = some x) (n : Nat) : ∃ y, getB (incs L f n) k = some y := by
  obtain ⟨i, hi⟩ := plc_of_get hx
  rw [← plc_handles (incs_handles L f n)] at hi
  exact ⟨_, (plc_some hi).2.2.1⟩
theorem incs_len (L : List Ln) (f : Nat → Int) : ∀ n, (incs L f n).length = L.length
  | 0 => rfl
  | n + 1 => by unfold incs; rw [upd_len]; exact incs_len L f n
set_option maxHeartbeats 2000000 in
set_option maxRecDepth 100000 in
theorem pcharge_handle (w : World) (b mb : Nat) (L : List Ln) (h : PBk w b mb L) (hnz : ∀ x ∈ L, x.h ≠ 0) (v : Value) (n : Nat) (f : Nat → Int) (hv : Nums w v n f) (hf : ∀ j, j < n → I64 (f j)) (lent : Bool) (hno : ¬ okP L n f) :
    Calls Try.prog 6 #[.pointer (some ⟨b, 0, none⟩), v, .bool lent] w (PPost w b mb L 20) := by
  have HL := Lib.hid (pleads w b mb L h hnz v n f hv hf)
  rw [okPB_false hno] at HL
  have HBK := Lib.hid h
  obtain ⟨p, cap, rfl, hm, hc⟩ := hv
  clear h hnz hf hno hc
  go_enter Try.func6, Try.ntmps6
  go_wp2_with fail
  refine HL.out.mono ?_
  rintro e w1 ⟨rfl, hb1⟩
  have HB1 := Lib.hid hb1
  clear hb1
  go_wp2_with fail
  go_ret
  exact ⟨by first | rfl | exact (congrArg Ending.returned (errV_ne (by decide)).symm), HBK.out.below HB1.out, Keeps.of_below HB1.out⟩
set_option maxHeartbeats 2000000 in
set_option maxRecDepth 100000 in
theorem pcharge_over (w : World) (b mb : Nat) (L : List Ln) (h : PBk w b mb L) (hnz : ∀ x ∈ L, x.h ≠ 0) (v : Value) (n : Nat) (f : Nat → Int) (hv : Nums w v n f) (hf : ∀ j, j < n → I64 (f j)) (lent : Bool) (hok : okP L n f) (x : Ln) (hx : getB L (f 0) = some x) (hg : x.a.g = 1073741824) :
    Calls Try.prog 6 #[.pointer (some ⟨b, 0, none⟩), v, .bool lent] w (PPost w b mb L 10) := by
  have HL := Lib.hid (pleads w b mb L h hnz v n f hv hf)
  rw [okPB_true hok] at HL
  have HBK := Lib.hid h
  obtain ⟨p, cap, rfl, hm, hc⟩ := hv
  have hn0 : 0 < n := hok.1
  have hn0' : (0 : Int) < (n : Int) := by omega
  obtain ⟨g, off, rfl, c0⟩ := hc 0 hn0
  have HC := Lib.hid c0
  have HR := Lib.hid (fun W (hb : Below w.heap.size w W) => ((h.below hb).look_some (hf 0 hn0) hx).2)
  have HW := Lib.hid (fun W (hb : Below w.heap.size w W) => has_cell (h.below hb).blk 0)
  simp only [List.getElem?_toArray, List.getElem?_cons_zero] at HW
  have z : (x.a.g == 1073741824) = true := by simpa using hg
  clear h hnz hf hok hc c0 hx hg
  go_enter Try.func6, Try.ntmps6
  go_wp2_with fail
  refine HL.out.mono ?_
  rintro e w1 ⟨rfl, hb1⟩
  have HB1 := Lib.hid hb1
  have c0 := (hb1.cell (p := ⟨g, off + 0, none⟩) (cell_lt HC.out)).trans HC.out
  simp only [Nat.add_zero] at c0
  have hw1 := HW.out w1 hb1
  have hr1 := HR.out w1.drew hb1.drew
  have hfa := fld_acc x
  have hfg := fld_giv x.a
  generalize f 0 = f0 at c0 hr1 HC HR
  clear hb1
  go_wp2_with fail
  go_region
  go_wp2_with fail
  go_ret
  exact ⟨by first | rfl | exact (congrArg Ending.returned (errV_ne (by decide)).symm), HBK.out.below HB1.out.drew, Keeps.of_below HB1.out.drew⟩
set_option maxHeartbeats 2000000 in
set_option maxRecDepth 100000 in
theorem pcharge_ok (w : World) (b mb : Nat) (L : List Ln) (h : PBk w b mb L) (hnz : ∀ x ∈ L, x.h ≠ 0) (v : Value) (n : Nat) (f : Nat → Int) (hv : Nums w v n f) (hf : ∀ j, j < n → I64 (f j)) (lent : Bool) (hok : okP L n f) (x : Ln) (hx : getB L (f 0) = some x) (hg : x.a.g ≠ 1073741824) (hl : L.length ≤ 100000) :
    Calls Try.prog 6 #[.pointer (some ⟨b, 0, none⟩), v, .bool lent] w (PPost w b mb (updB (incs L f n) (f (n - 1)) (lastUp lent)) 0) := by
  have HL := Lib.hid (pleads w b mb L h hnz v n f hv hf)
  rw [okPB_true hok] at HL
  have HBK := Lib.hid h
  obtain ⟨p, cap, rfl, hm, hc⟩ := hv
  have hn0 : 0 < n := hok.1
  have hn0' : (0 : Int) < (n : Int) := by omega
  obtain ⟨p0, hp0⟩ : ∃ p0, p0 = p := ⟨_, rfl⟩
  have hcc := hc
  rw [← hp0] at hcc
  obtain ⟨g, off, rfl, c0⟩ := hc 0 hn0
  have HC := Lib.hid c0
  have HCC := Lib.hid (show ∀ W, Keeps (fun y => y = mb) w W → ∀ j, j < n → ∃ g off, p0 = some ⟨g, off, none⟩ ∧ W.cell? ⟨g, off + j, none⟩ = some (.int .i64 (f j)) from fun W hk j hj => by
    obtain ⟨g, off, e, c⟩ := hcc j hj
    exact ⟨g, off, e, (hk.cell (p := ⟨g, off + j, none⟩) (cell_lt c) (fun e2 => by
      have e3 : g = mb := e2
      rw [e3, h.map.no_cell] at c; cases c)).trans c⟩)
  have HR := Lib.hid (fun W (hb : Below w.heap.size w W) => ((h.below hb).look_some (hf 0 hn0) hx).2)
  have HW := Lib.hid (fun W (hb : Below w.heap.size w W) => has_cell (h.below hb).blk 0)
  simp only [List.getElem?_toArray, List.getElem?_cons_zero] at HW
  have z : (x.a.g == 1073741824) = false := by simpa using hg
  have HOK := Lib.hid hok
  have HF := Lib.hid hf
  have HX := Lib.hid hx
  clear h hnz hf hok hc c0 hx hg hcc
  go_enter Try.func6, Try.ntmps6
  go_wp2_with fail
  refine HL.out.mono ?_
  rintro e w1 ⟨rfl, hb1⟩
  have HB1 := Lib.hid hb1
  have c0 := (hb1.cell (p := ⟨g, off + 0, none⟩) (cell_lt HC.out)).trans HC.out
  simp only [Nat.add_zero] at c0
  have hw1 := HW.out w1 hb1
  have hr1 := HR.out w1.drew hb1.drew
  have hfa := fld_acc x
  have hfg := fld_giv x.a
  generalize f 0 = f0 at c0 hr1 HC HR
  clear hb1
  go_wp2_with fail
  go_region
  go_wp2_with fail
  have HB1d := Lib.hid HB1.out.drew
  clear hr1 c0 hw1
  go_loopw [31] (fun iv wr => ∃ j : Nat, iv = .int .i64 j ∧ j ≤ n ∧ Hid (PBk wr b mb (incs L f j)) ∧ Hid (Keeps (fun y => y = mb) w wr)) (fun iv _ => n - (intOf iv).toNat)
  case atStart => exact ⟨0, rfl, Nat.zero_le _, Lib.hid (HBK.out.below HB1d.out), Lib.hid (Keeps.of_below HB1d.out)⟩
  case round =>
    obtain ⟨j, rfl, hj, HBr, HKr⟩ := hrel
    clear HB1d
    by_cases hjn : j < n
    · have hjn' : (j : Int) < (n : Int) := by omega
      obtain ⟨g', off', e', c0⟩ := HCC.out _ HKr.out j hjn
      rw [hp0] at e'
      cases e'
      have hfj := HF.out j hjn
      obtain ⟨x1, hx1, _⟩ := HOK.out.2 j hjn
      obtain ⟨y, hy⟩ := get_incs (f := f) hx1 j
      have HS := Lib.hid (show incs L f (j + 1) = updB (incs L f j) (f j) gUp from rfl)
      obtain ⟨W2, hW2⟩ : ∃ W2, W2 = wr.alloc (.cells #[.int .i64 y.p, .int .i64 (wrap64 (y.a.g + 1)), .int .i64 y.a.o, .int .i64 y.a.l, .int .i64 y.a.d, .int .i64 y.a.c, .int .i64 y.a.t, .int .i64 y.c.g, .int .i64 y.c.o, .int .i64 y.c.l, .int .i64 y.c.d, .int .i64 y.c.c, .int .i64 y.c.t] 43) := ⟨_, rfl⟩
      have HB2 := Lib.hid (show Below wr.heap.size wr W2 from by rw [hW2]; exact (Below.refl _ _).alloc (Nat.le_refl _) _)
      have hrunL := ((HBr.out).look_some hfj hy).2
      have hwr := has_cell HBr.out.blk 0
      have hw2 := has_cell (HBr.out.below HB2.out).blk 0
      simp only [List.getElem?_toArray, List.getElem?_cons_zero] at hwr hw2
      have hbr := HBr.out.lt.1
      obtain ⟨g0, g1, g2, g3, g4, g5, g6, g7, g8, g9, g10, g11, g12⟩ := page13 (show Has W2 wr.heap.size (.cells #[.int .i64 y.p, .int .i64 (wrap64 (y.a.g + 1)), .int .i64 y.a.o, .int .i64 y.a.l, .int .i64 y.a.d, .int .i64 y.a.c, .int .i64 y.a.t, .int .i64 y.c.g, .int .i64 y.c.o, .int .i64 y.c.l, .int .i64 y.c.d, .int .i64 y.c.c, .int .i64 y.c.t] 43) from by rw [hW2]; exact has_new _ _ _ rfl)
      obtain ⟨w3, hrun, hm3, hg3⟩ := put_drew (HBr.out.below HB2.out).map (by rw [incs_len]; unfold maxLen; omega) hfj (.agg #[.int .i64 y.p, .int .i64 (wrap64 (y.a.g + 1)), .int .i64 y.a.o, .int .i64 y.a.l, .int .i64 y.a.d, .int .i64 y.a.c, .int .i64 y.a.t, .int .i64 y.c.g, .int .i64 y.c.o, .int .i64 y.c.l, .int .i64 y.c.d, .int .i64 y.c.c, .int .i64 y.c.t])
      have HF3 := Lib.hid (turn_upd HBr.out HB2.out.drew hg3 hy (f := gUp) (fun _ => rfl) rfl hm3)
      have HK3 := Lib.hid (HKr.out.trans (keeps_turn HB2.out.drew hg3))
      have HW2 := Lib.hid hW2
      clear hm3 hg3 hW2 hy HB2
      rw [← HS.out] at HF3
      clear hx1 HS
      generalize f j = fj at c0 hrunL hrun hfj
      go_wp2_with (at_lookup; refine wpList_vlook rfl _ _ _ false rfl mb rfl _ _ rfl hrunL ?_)
      rw [← HW2.out]
      go_region
      go_wp2_with fail
      go_roundw
      case rel => exact ⟨j + 1, by go_num, by omega, HF3, HK3⟩
      case measure => simp [intOf]; omega
    · have hd : decide (j < n) = false := decide_eq_false hjn
      have e : j = n := by omega
      subst e
      clear hjn hj
      have hlm : (j : Int) - 1 = ((j - 1 : Nat) : Int) := by omega
      have hlm2 : ((j - 1 : Nat) : Int) < (j : Int) := by omega
      obtain ⟨g', off', e', c0⟩ := HCC.out _ HKr.out (j - 1) (by omega)
      rw [hp0] at e'
      cases e'
      have hfj := HF.out (j - 1) (by omega)
      obtain ⟨x1, hx1, _⟩ := HOK.out.2 (j - 1) (by omega)
      obtain ⟨y, hy⟩ := get_incs (f := f) hx1 j
      clear hx1 HCC HF HOK
      cases lent with
      | false =>
        obtain ⟨W2, hW2⟩ : ∃ W2, W2 = wr.alloc (.cells #[.int .i64 y.p, .int .i64 y.a.g, .int .i64 (wrap64 (y.a.o + 1)), .int .i64 y.a.l, .int .i64 y.a.d, .int .i64 y.a.c, .int .i64 y.a.t, .int .i64 y.c.g, .int .i64 y.c.o, .int .i64 y.c.l, .int .i64 y.c.d, .int .i64 y.c.c, .int .i64 y.c.t] 43) := ⟨_, rfl⟩
        have HB2 := Lib.hid (show Below wr.heap.size wr W2 from by rw [hW2]; exact (Below.refl _ _).alloc (Nat.le_refl _) _)
        have hrunL := ((HBr.out).look_some hfj hy).2
        have hwr := has_cell HBr.out.blk 0
        have hw2 := has_cell (HBr.out.below HB2.out).blk 0
        simp only [List.getElem?_toArray, List.getElem?_cons_zero] at hwr hw2
        have hbr := HBr.out.lt.1
        obtain ⟨g0, g1, g2, g3, g4, g5, g6, g7, g8, g9, g10, g11, g12⟩ := page13 (show Has W2 wr.heap.size (.cells #[.int .i64 y.p, .int .i64 y.a.g, .int .i64 (wrap64 (y.a.o + 1)), .int .i64 y.a.l, .int .i64 y.a.d, .int .i64 y.a.c, .int .i64 y.a.t, .int .i64 y.c.g, .int .i64 y.c.o, .int .i64 y.c.l, .int .i64 y.c.d, .int .i64 y.c.c, .int .i64 y.c.t] 43) from by rw [hW2]; exact has_new _ _ _ rfl)
        obtain ⟨w3, hrun, hm3, hg3⟩ := put_drew (HBr.out.below HB2.out).map (by rw [incs_len]; unfold maxLen; omega) hfj (.agg #[.int .i64 y.p, .int .i64 y.a.g, .int .i64 (wrap64 (y.a.o + 1)), .int .i64 y.a.l, .int .i64 y.a.d, .int .i64 y.a.c, .int .i64 y.a.t, .int .i64 y.c.g, .int .i64 y.c.o, .int .i64 y.c.l, .int .i64 y.c.d, .int .i64 y.c.c, .int .i64 y.c.t])
        have HF3 := Lib.hid (turn_upd HBr.out HB2.out.drew hg3 hy (f := lastUp false) (fun _ => rfl) rfl hm3)
        have HK3 := Lib.hid (HKr.out.trans (keeps_turn HB2.out.drew hg3))
        have HW2 := Lib.hid hW2
        clear hm3 hg3 hW2 hy HB2
        generalize f (j - 1) = fj at c0 hrunL hrun hfj
        go_wp2_with (at_lookup; refine wpList_vlook rfl _ _ _ false rfl mb rfl _ _ rfl hrunL ?_)
        rw [← HW2.out]
        go_region
        go_wp2_with fail
        go_ret
        exact ⟨rfl, HF3.out, HK3.out⟩
      | true =>
        obtain ⟨W2, hW2⟩ : ∃ W2, W2 = wr.alloc (.cells #[.int .i64 y.p, .int .i64 y.a.g, .int .i64 (wrap64 (y.a.o + 1)), .int .i64 (wrap64 (y.a.l + 1)), .int .i64 y.a.d, .int .i64 y.a.c, .int .i64 y.a.t, .int .i64 y.c.g, .int .i64 y.c.o, .int .i64 y.c.l, .int .i64 y.c.d, .int .i64 y.c.c, .int .i64 y.c.t] 43) := ⟨_, rfl⟩
        have HB2 := Lib.hid (show Below wr.heap.size wr W2 from by rw [hW2]; exact (Below.refl _ _).alloc (Nat.le_refl _) _)
        have hrunL := ((HBr.out).look_some hfj hy).2
        have hwr := has_cell HBr.out.blk 0
        have hw2 := has_cell (HBr.out.below HB2.out).blk 0
        simp only [List.getElem?_toArray, List.getElem?_cons_zero] at hwr hw2
        have hbr := HBr.out.lt.1
        obtain ⟨g0, g1, g2, g3, g4, g5, g6, g7, g8, g9, g10, g11, g12⟩ := page13 (show Has W2 wr.heap.size (.cells #[.int .i64 y.p, .int .i64 y.a.g, .int .i64 (wrap64 (y.a.o + 1)), .int .i64 (wrap64 (y.a.l + 1)), .int .i64 y.a.d, .int .i64 y.a.c, .int .i64 y.a.t, .int .i64 y.c.g, .int .i64 y.c.o, .int .i64 y.c.l, .int .i64 y.c.d, .int .i64 y.c.c, .int .i64 y.c.t] 43) from by rw [hW2]; exact has_new _ _ _ rfl)
        obtain ⟨w3, hrun, hm3, hg3⟩ := put_drew (HBr.out.below HB2.out).map (by rw [incs_len]; unfold maxLen; omega) hfj (.agg #[.int .i64 y.p, .int .i64 y.a.g, .int .i64 (wrap64 (y.a.o + 1)), .int .i64 (wrap64 (y.a.l + 1)), .int .i64 y.a.d, .int .i64 y.a.c, .int .i64 y.a.t, .int .i64 y.c.g, .int .i64 y.c.o, .int .i64 y.c.l, .int .i64 y.c.d, .int .i64 y.c.c, .int .i64 y.c.t])
        have HF3 := Lib.hid (turn_upd HBr.out HB2.out.drew hg3 hy (f := lastUp true) (fun _ => rfl) rfl hm3)
        have HK3 := Lib.hid (HKr.out.trans (keeps_turn HB2.out.drew hg3))
        have HW2 := Lib.hid hW2
        clear hm3 hg3 hW2 hy HB2
        generalize f (j - 1) = fj at c0 hrunL hrun hfj
        go_wp2_with (at_lookup; refine wpList_vlook rfl _ _ _ false rfl mb rfl _ _ rfl hrunL ?_)
        rw [← HW2.out]
        go_region
        go_wp2_with fail
        go_ret
        exact ⟨rfl, HF3.out, HK3.out⟩
theorem root_of {L : List Ln} (hI : Inv L) {k : Int} {x : Ln} (hx : getB L k = some x) (hp : x.p = 0) : x.a.g = rootG L := by
  obtain ⟨r, rest, rfl, _, hr⟩ := hI.root
  obtain ⟨_, hm⟩ := get_some hx
  rcases List.mem_cons.1 hm with rfl | hm
  · rfl
  · exact absurd hp (hr x hm)
theorem pcharge (w : World) (b mb : Nat) (L : List Ln) (h : PBk w b mb L) (hl : L.length ≤ 100000) (hI : Inv L) (v : Value) (n : Nat) (f : Nat → Int) (hv : Nums w v n f) (hf : ∀ j, j < n → I64 (f j)) (lent : Bool) :
    Calls Try.prog 6 #[.pointer (some ⟨b, 0, none⟩), v, .bool lent] w (PPost w b mb (chargeB L n f lent) (chargeE L n f)) := by
  by_cases hok : okP L n f
  · obtain ⟨x, hx, hp⟩ := hok.2 0 hok.1
    rw [if_pos rfl] at hp
    have hr := root_of hI hx hp
    have hrg := hI.rg
    by_cases hg : x.a.g = 1073741824
    · have hE : chargeE L n f = 10 := by unfold chargeE; rw [if_neg (fun k => k hok), if_pos (by omega)]
      rw [show chargeB L n f lent = L from if_neg (by rw [hE]; decide), hE]
      exact pcharge_over w b mb L h hI.nz v n f hv hf lent hok x hx hg
    · have hE : chargeE L n f = 0 := by unfold chargeE; rw [if_neg (fun k => k hok), if_neg (by omega)]
      rw [show chargeB L n f lent = updB (incs L f n) (f (n - 1)) (lastUp lent) from if_pos hE, hE]
      exact pcharge_ok w b mb L h hI.nz v n f hv hf lent hok x hx hg hl
  · have hE : chargeE L n f = 20 := by unfold chargeE; rw [if_pos hok]
    rw [show chargeB L n f lent = L from if_neg (by rw [hE]; decide), hE]
    exact pcharge_handle w b mb L h hI.nz v n f hv hf lent hok
end Go.Proofs.Ytdbfjcdglcagaaa
