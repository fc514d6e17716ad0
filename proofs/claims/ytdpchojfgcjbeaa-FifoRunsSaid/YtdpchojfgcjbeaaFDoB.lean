/- The law's own do, the last two ways: what is kept, what is looked at and cleared; no condition but those that each row names. -/
import Derived.Test.YtdpchojfgcjbeaaFDo
import Derived.Test.YtdpchojfgcjbeaaFRefK
import Derived.Test.YtdpchojfgcjbeaaFKeep
namespace Go.Proofs.Ytdpchojfgcjbeaa
open Go.RowKit Go.Shelf

set_option maxHeartbeats 400000 in
set_option maxRecDepth 100000 in
theorem dv_any (W : World) (n : Nat) (k i a x : Int) (h : W.heap[n]? = some (.cells #[.int .i64 k, .int .i64 i, .int .i64 a] AT (0, 0))) :
    Calls Try.prog 46 #[.int .i64 x, .pointer (some ⟨n, 0, none⟩)] W fun e w' => e = .returned (.bool (dv a x)) ∧ W = w' := by
  have c2 : W.cell? ⟨n, 2, none⟩ = some (.int .i64 a) := (cell_of_row _ _ _ _ _ _ h).trans rfl
  have hlt := lt_of_block h
  clear h
  by_cases ha : a = 0
  · have ha' : (a != 0) = false := by simp [ha]
    rw [show dv a x = false from by simp [dv, ha]]
    go_enter Try.func46, Try.ntmps46
    go_wp2_with fail
    go_ret
    exact ⟨rfl, rfl⟩
  · have ha' : (a != 0) = true := by simp [ha]
    rw [show dv a x = (x.tmod a == 0) from by simp [dv, ha]]
    go_enter Try.func46, Try.ntmps46
    go_wp2_with fail
    go_ret
    exact ⟨rfl, rfl⟩

set_option maxHeartbeats 1000000 in
theorem keep_do (B : Nat) (A : Qu) (hA : A.Good 1) (hlast : A.last ≤ 9223372036854775807) (L : List (Int × Int)) (hl : A.l = ent_I L) (W : World) (b : Nat) (s : Value) (h : PQ QT_I ET_I 1 B W A b s) (n : Nat) (k i a : Int) (hn : W.heap[n]? = some (.cells #[.int .i64 k, .int .i64 i, .int .i64 a] AT (0, 0))) :
    Calls Try.prog 26 #[.pointer (some ⟨b, 0, none⟩), .func (.func 46) #[] #[.pointer (some ⟨n, 0, none⟩)]] W fun e w' =>
      e = .returned (.int .i64 ((L.length : Int) - (L.filter fun p => dv a p.1).length)) ∧ Turn B { A with l := ent_I (L.filter fun p => dv a p.1) } b s W w' := by
  have ho := h.other hn (by decide) (by decide)
  refine (keep_I W B A b s 46 #[.pointer (some ⟨n, 0, none⟩)] (dv a) (fun x => x = n) (fun _ W => W.heap[n]? = some (.cells #[.int .i64 k, .int .i64 i, .int .i64 a] AT (0, 0))) L hA hlast h hl
    (enters_of Try.func46 (by kernel_rfl) rfl)
    ⟨fun j hj W' hJ => (dv_any W' n k i a L[j].1 hJ).mono fun e w' he => by obtain ⟨rfl, rfl⟩ := he; exact ⟨rfl, hJ, Keeps.refl _ _⟩,
     fun j W1 W2 hJ hk => (hk.block n (lt_of_block hJ) (fun e => e rfl)).trans hJ,
     fun x hx => by subst hx; exact lt_of_block hn⟩ (fun e => ho (.inl e.symm)) (fun g e1 e2 => ho (.inr (by subst e2; exact e1))) hn).mono ?_
  rintro e w' ⟨rfl, hJ, s', hq, hk, _⟩
  refine ⟨rfl, s', hq, ⟨hk.os, hk.tape, hk.output, hk.size, fun x hx hne => ?_⟩⟩
  by_cases hxn : x = n
  · subst hxn; exact hJ.trans hn.symm
  · exact hk.block x hx (fun e => by rcases e with e | e; exact hxn e; exact hne e)

set_option maxHeartbeats 4000000 in
set_option maxRecDepth 100000 in
theorem do_keep (B : Nat) (w : World) (A A' : Qu) (b : Nat) (s v : Value) (l l' : List Int) (kind i x n : Int) (hq : PQ QT_I ET_I 1 B w A b s) (hn : Nums w v l) (hw : way kind = 6)
    (hr : ∀ W, Nums W v l → Calls Try.prog 45 #[.agg #[.int .i64 A.limit, v], .int .i64 x] W (RPost W A.limit l' [.int .i64 n]))
    (hp : ∀ W q, PQ QT_I ET_I 1 B W A b s → W.heap[q]? = some (.cells #[.int .i64 kind, .int .i64 i, .int .i64 x] AT (0, 0)) → Calls Try.prog 26 #[.pointer (some ⟨b, 0, none⟩), .func (.func 46) #[] #[.pointer (some ⟨q, 0, none⟩)]] W fun e w' => e = .returned (.int .i64 n) ∧ Turn B A' b s W w') :
    Calls Try.prog 12 #[.pointer (some ⟨b, 0, none⟩), .agg #[.int .i64 A.limit, v], .agg #[.int .i64 kind, .int .i64 i, .int .i64 x]] w (DoPost B w A.limit A' b s l') := by
  obtain ⟨y0, y1⟩ := way_in kind
  obtain ⟨p, cap, rfl, _⟩ := own_small hn
  have HQ := Lib.hid hq
  have HN := Lib.hid hn
  have HR := Lib.hid hr
  have HP := Lib.hid hp
  have HS := Lib.hid (DM.start w A.limit (.slice p l.length cap) kind i x)
  clear hq hn hr hp
  unfold way at hw
  have HBW := Lib.hid (show ∀ o0 o1 o2 o3, Below w.heap.size w ((((w.alloc o0).alloc o1).alloc o2).alloc o3) from fun o0 o1 o2 o3 => (((((Below.refl _ w).alloc (Nat.le_refl _) o0).alloc (by simp) o1).alloc (by simp; omega) o2).alloc (by simp; omega) o3))
  go_enter Try.func12, Try.ntmps12
  go_wp2_with fail
  refine (HR.out _ (own_below HN.out (HBW.out _ _ _ _))).mono ?_
  rintro e w1 ⟨v', rfl, hn1, hb1⟩
  obtain ⟨p', cap', rfl, _⟩ := own_small hn1
  have hd1 := HS.out.below hb1
  have hbw1 := (HBW.out _ _ _ _).trans (hb1.mono (by simp <;> omega))
  obtain ⟨c0, c1, c2, c3, c4, c5, c6, c7, c8, c9, c10, c11, c12, c13, c14, c15, c16⟩ := hd1.cells
  have HD1 := Lib.hid hd1
  have HN1 := Lib.hid hn1
  have HB1 := Lib.hid hbw1
  clear hd1 hn1 hb1 hbw1
  go_wp2_with fail
  have hq1 := pq_set2 (HQ.out.below HB1.out) HD1.out.e3 (.int .i64 A.limit) (.slice p' l'.length cap')
  refine (HP.out _ _ hq1 (HD1.out.set (.slice p' l'.length cap')).e1).mono ?_
  rintro e w2 ⟨rfl, s', hq2, hk2⟩
  have hd2 := (HD1.out.set (.slice p' l'.length cap')).turn hq1 hk2
  have HN2 := Lib.hid (nums_turn (nums_set2 HN1.out HD1.out.e3 _ _) hq1 hk2)
  have HK2 := Lib.hid ((((Keeps.of_below HB1.out).setCell ⟨w.heap.size + 3, 0, none⟩ (.int .i64 A.limit) (.inr (by simp))).setCell ⟨w.heap.size + 3, 1, none⟩ (.slice p' l'.length cap') (.inr (by simp))).trans hk2)
  have HD2 := Lib.hid hd2
  have HQ2 := Lib.hid hq2
  clear c0 c1 c2 c3 c4 c5 c6 c7 c8 c9 c10 c11 c12 c13 c14 c15 c16
  obtain ⟨c0, c1, c2, c3, c4, c5, c6, c7, c8, c9, c10, c11, c12, c13, c14, c15, c16⟩ := hd2.cells
  clear hq1 hd2 hq2 hk2
  go_wp2_with fail
  refine bodyPost_ret (v := .tuple #[.agg #[.int .i64 A.limit, .slice p' l'.length cap'], .bool true]) ?r1 rfl ?_
  case r1 => simp [results, Try.results12, go_sem, c5, c6]
  exact do_end HD2.out HQ2.out HN2.out HK2.out
end Go.Proofs.Ytdpchojfgcjbeaa
