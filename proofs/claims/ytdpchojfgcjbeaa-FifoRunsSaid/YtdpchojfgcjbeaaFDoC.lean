/- The law's own do, the last way: what is looked at, and cleared or not; no condition but those that each row names. -/
import Derived.Test.YtdpchojfgcjbeaaFDo
import Derived.Deep.RegionHeld3
namespace Go.Proofs.Ytdpchojfgcjbeaa
open Go.RowKit

set_option maxHeartbeats 4000000 in
set_option maxRecDepth 100000 in
theorem do_at (B : Nat) (w : World) (A : Qu) (b : Nat) (s v : Value) (l : List Int) (kind i x y : Int) (t : Bool) (hq : PQ QT_I ET_I 1 B w A b s) (hn : Nums w v l) (hw : way kind = 7) (hx : (x.tmod 5 == 0) = false)
    (hr : ∀ W, Nums W v l → Calls Try.prog 47 #[.agg #[.int .i64 A.limit, v], .int .i64 i] W fun e w' => e = .returned (.tuple #[.int .i64 y, .bool t]) ∧ Below W.heap.size W w')
    (hp : ∀ W, PQ QT_I ET_I 1 B W A b s → Calls Try.prog 16 #[.pointer (some ⟨b, 0, none⟩), .int .i64 i] W fun e w' => e = .returned (.tuple #[.int .i64 y, .bool t]) ∧ W = w') :
    Calls Try.prog 12 #[.pointer (some ⟨b, 0, none⟩), .agg #[.int .i64 A.limit, v], .agg #[.int .i64 kind, .int .i64 i, .int .i64 x]] w (DoPost B w A.limit A b s l) := by
  obtain ⟨y0, y1⟩ := way_in kind
  obtain ⟨p, cap, rfl, _⟩ := own_small hn
  have HQ := Lib.hid hq
  have HN := Lib.hid hn
  have HR := Lib.hid hr
  have HP := Lib.hid hp
  have HS := Lib.hid (DM.start w A.limit (.slice p l.length cap) kind i x)
  clear hq hn hr hp
  unfold way at hw
  have HBW := Lib.hid (show ∀ o0 o1 o2 o3, Below w.heap.size w ((((w.alloc o0).alloc o1).alloc o2).alloc o3) from fun o0 o1 o2 o3 => (((((Below.refl _ w).alloc (Nat.le_refl _) o0).alloc (by simp) o1).alloc (by simp; omega) o2).alloc (by simp; omega) o3))
  go_enter Try.func12, Try.ntmps12
  go_wp2_with fail
  refine (HP.out _ (HQ.out.below (HBW.out _ _ _ _))).mono ?_
  rintro e w0 ⟨rfl, rfl⟩
  go_wp2_with fail
  refine (HR.out _ (own_below HN.out (HBW.out _ _ _ _))).mono ?_
  rintro e w1 ⟨rfl, hb1⟩
  have hd1 := HS.out.below hb1
  have hbw1 := (HBW.out _ _ _ _).trans (hb1.mono (by simp <;> omega))
  obtain ⟨c0, c1, c2, c3, c4, c5, c6, c7, c8, c9, c10, c11, c12, c13, c14, c15, c16⟩ := hd1.cells
  have HD1 := Lib.hid hd1
  have HB1 := Lib.hid hbw1
  clear hd1 hb1 hbw1
  go_wp2_with fail
  refine bodyPost_ret (v := .tuple #[.agg #[.int .i64 A.limit, .slice p l.length cap], .bool true]) ?r1 rfl ?_
  case r1 => simp [results, Try.results12, go_sem, c5, c6]
  exact do_end HD1.out (HQ.out.below HB1.out) (own_below HN.out HB1.out) (Keeps.of_below HB1.out)

set_option maxHeartbeats 4000000 in
set_option maxRecDepth 100000 in
theorem do_clear (B : Nat) (w : World) (A : Qu) (b : Nat) (s v : Value) (l : List Int) (kind i x y : Int) (t : Bool) (hq : PQ QT_I ET_I 1 B w A b s) (hn : Nums w v l) (hl : A.l.length = l.length) (hw : way kind = 7) (hx : (x.tmod 5 == 0) = true)
    (hr : ∀ W, Nums W v l → Calls Try.prog 47 #[.agg #[.int .i64 A.limit, v], .int .i64 i] W fun e w' => e = .returned (.tuple #[.int .i64 y, .bool t]) ∧ Below W.heap.size W w')
    (hp : ∀ W, PQ QT_I ET_I 1 B W A b s → Calls Try.prog 16 #[.pointer (some ⟨b, 0, none⟩), .int .i64 i] W fun e w' => e = .returned (.tuple #[.int .i64 y, .bool t]) ∧ W = w') :
    Calls Try.prog 12 #[.pointer (some ⟨b, 0, none⟩), .agg #[.int .i64 A.limit, v], .agg #[.int .i64 kind, .int .i64 i, .int .i64 x]] w (DoPost B w A.limit A.clear b s []) := by
  obtain ⟨y0, y1⟩ := way_in kind
  obtain ⟨p, cap, rfl, _⟩ := own_small hn
  have HQ := Lib.hid hq
  have HN := Lib.hid hn
  have HR := Lib.hid hr
  have HP := Lib.hid hp
  have HS := Lib.hid (DM.start w A.limit (.slice p l.length cap) kind i x)
  have HC := Lib.hid (fun W (h : PQ QT_I ET_I 1 B W A b s) => clear_any B A W b s h)
  rw [hl] at HC
  clear hq hn hr hp hl
  unfold way at hw
  have HBW := Lib.hid (show ∀ o0 o1 o2 o3, Below w.heap.size w ((((w.alloc o0).alloc o1).alloc o2).alloc o3) from fun o0 o1 o2 o3 => (((((Below.refl _ w).alloc (Nat.le_refl _) o0).alloc (by simp) o1).alloc (by simp; omega) o2).alloc (by simp; omega) o3))
  go_enter Try.func12, Try.ntmps12
  go_wp2_with fail
  refine (HP.out _ (HQ.out.below (HBW.out _ _ _ _))).mono ?_
  rintro e w0 ⟨rfl, rfl⟩
  go_wp2_with fail
  refine (HR.out _ (own_below HN.out (HBW.out _ _ _ _))).mono ?_
  rintro e w1 ⟨rfl, hb1⟩
  have hd1 := HS.out.below hb1
  have hbw1 := (HBW.out _ _ _ _).trans (hb1.mono (by simp <;> omega))
  obtain ⟨c0, c1, c2, c3, c4, c5, c6, c7, c8, c9, c10, c11, c12, c13, c14, c15, c16⟩ := hd1.cells
  have HD1 := Lib.hid hd1
  have HB1 := Lib.hid hbw1
  have HQ1 := Lib.hid (HQ.out.below hbw1)
  clear hd1 hb1 hbw1
  go_upto_region 8 with fail
  go_cut [9] (fun u wx => u = .bool true ∧ Hid (Turn B A.clear b s w1 wx))
  case first =>
    go_region_law (go_simp; go_at_call 24; refine (HC.out _ HQ1.out.drew).mono ?_; rintro e w2 ⟨rfl, s', hq2, hk2, _⟩; obtain ⟨d0, d1, d2, d3, d4, d5, d6, d7, d8, d9, d10, d11, d12, d13, d14, d15, d16⟩ := (DM.turn (W := w1.drew) (DM.below HD1.out (below_drewN (Below.refl _ _) 1)) HQ1.out.drew hk2).cells)
    all_goals go_wp2_with fail
    all_goals
      go_meet
      exact ⟨rfl, Lib.hid ⟨s', hq2, (Keeps.refl _ w1).drew.trans hk2⟩⟩
  case rest =>
    obtain ⟨rfl, hcut⟩ := hcut
    obtain ⟨s', hq2, hk2⟩ := hcut.out
    have hd2 := HD1.out.turn HQ1.out hk2
    have HQ2 := Lib.hid hq2
    have HK2 := Lib.hid ((Keeps.of_below HB1.out).trans hk2)
    have HD2 := Lib.hid hd2
    clear c0 c1 c2 c3 c4 c5 c6 c7 c8 c9 c10 c11 c12 c13 c14 c15 c16 hcut hk2
    obtain ⟨c0, c1, c2, c3, c4, c5, c6, c7, c8, c9, c10, c11, c12, c13, c14, c15, c16⟩ := hd2.cells
    clear hd2 hq2
    go_wp2_with fail
    refine bodyPost_ret (v := .tuple #[.agg #[.int .i64 A.limit, .slice none 0 0], .bool true]) ?r1 rfl ?_
    case r1 => simp [results, Try.results12, go_sem, c5, c6]
    exact do_end (HD2.out.set (.slice none 0 0)) (pq_set2 HQ2.out HD2.out.e3 _ _) (World.ownsRow_nil _ _ _ _) ((HK2.out.setCell ⟨w.heap.size + 3, 0, none⟩ (.int .i64 A.limit) (.inr (by simp))).setCell ⟨w.heap.size + 3, 1, none⟩ (.slice none 0 0) (.inr (by simp)))
end Go.Proofs.Ytdpchojfgcjbeaa
