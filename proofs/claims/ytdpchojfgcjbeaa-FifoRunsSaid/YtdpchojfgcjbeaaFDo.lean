/- The law's own do, way by way: an act done to the program's queue and to the document's; no condition but those that each row names. -/
import Derived.Test.YtdpchojfgcjbeaaFRefB
import Derived.Test.YtdpchojfgcjbeaaFTwinsA
namespace Go.Proofs.Ytdpchojfgcjbeaa
open Go.RowKit

abbrev RT : TypeId := 30
abbrev AT : TypeId := 38
/-- Which of the eight ways an act goes. -/
def way (kind : Int) : Int := (kind.tmod 8 + 8).tmod 8
theorem way_in (kind : Int) : -8 < kind.tmod 8 ∧ kind.tmod 8 < 8 := by
  refine ⟨Int.neg_lt_of_neg_lt ?_, Int.tmod_lt_of_pos _ (by omega)⟩
  have := Int.tmod_lt_of_pos (-kind) (b := 8) (by omega)
  rw [Int.neg_tmod] at this
  omega

/-- What do has in memory beside the queue: the document's queue, the act, the result, what comes next. -/
structure DM (n : Nat) (W : World) (lim : Int) (v u : Value) (k i x : Int) : Prop where
  e0 : W.heap[n]? = some (.cells #[.int .i64 lim, v] RT (0, 0))
  e1 : W.heap[n + 1]? = some (.cells #[.int .i64 k, .int .i64 i, .int .i64 x] AT (0, 0))
  e2 : W.heap[n + 2]? = some (.cells #[.int .i64 0, .slice none 0 0] RT (0, 0))
  e3 : W.heap[n + 3]? = some (.cells #[.int .i64 lim, u] RT (0, 0))
theorem DM.start (w : World) (lim : Int) (v : Value) (k i x : Int) :
    DM w.heap.size ((((w.alloc (.cells #[.int .i64 lim, v] RT)).alloc (.cells #[.int .i64 k, .int .i64 i, .int .i64 x] AT)).alloc (.cells #[.int .i64 0, .slice none 0 0] RT)).alloc (.cells #[.int .i64 lim, v] RT)) lim v v k i x := by
  refine ⟨?_, ?_, ?_, ?_⟩
  · exact (Below.heap_alloc _ _ _ (by simp; omega)).trans ((Below.heap_alloc _ _ _ (by simp; omega)).trans ((Below.heap_alloc _ _ _ (by simp)).trans (heap_alloc_new w _)))
  · exact (Below.heap_alloc _ _ _ (by simp <;> omega)).trans ((Below.heap_alloc _ _ _ (by simp)).trans (by simpa using heap_alloc_new (w.alloc (.cells #[.int .i64 lim, v] RT)) (.cells #[.int .i64 k, .int .i64 i, .int .i64 x] AT)))
  · exact (Below.heap_alloc _ _ _ (by simp)).trans (by simpa using heap_alloc_new ((w.alloc (.cells #[.int .i64 lim, v] RT)).alloc (.cells #[.int .i64 k, .int .i64 i, .int .i64 x] AT)) (.cells #[.int .i64 0, .slice none 0 0] RT))
  · simpa using heap_alloc_new (((w.alloc (.cells #[.int .i64 lim, v] RT)).alloc (.cells #[.int .i64 k, .int .i64 i, .int .i64 x] AT)).alloc (.cells #[.int .i64 0, .slice none 0 0] RT)) (.cells #[.int .i64 lim, v] RT)
theorem DM.below {n : Nat} {W W' : World} {lim : Int} {v u : Value} {k i x : Int} (h : DM n W lim v u k i x) (hb : Below W.heap.size W W') : DM n W' lim v u k i x :=
  ⟨(hb.block _ (lt_of_block h.e0)).trans h.e0, (hb.block _ (lt_of_block h.e1)).trans h.e1, (hb.block _ (lt_of_block h.e2)).trans h.e2, (hb.block _ (lt_of_block h.e3)).trans h.e3⟩
theorem DM.turn {n : Nat} {W W' : World} {lim : Int} {v u : Value} {k i x : Int} {B : Nat} {A : Qu} {b : Nat} {s : Value} (h : DM n W lim v u k i x) (hq : PQ QT_I ET_I 1 B W A b s) (hk : Keeps (fun x => x = b ∨ s.ownBlock = some x) W W') : DM n W' lim v u k i x :=
  ⟨(hk.block _ (lt_of_block h.e0) (hq.other h.e0 (by decide) (by decide))).trans h.e0, (hk.block _ (lt_of_block h.e1) (hq.other h.e1 (by decide) (by decide))).trans h.e1,
   (hk.block _ (lt_of_block h.e2) (hq.other h.e2 (by decide) (by decide))).trans h.e2, (hk.block _ (lt_of_block h.e3) (hq.other h.e3 (by decide) (by decide))).trans h.e3⟩
theorem DM.set {n : Nat} {W : World} {lim : Int} {v u : Value} {k i x : Int} (h : DM n W lim v u k i x) (u' : Value) : DM n ((W.setCell ⟨n + 3, 0, none⟩ (.int .i64 lim)).setCell ⟨n + 3, 1, none⟩ u') lim v u' k i x := by
  have f1 : (W.setCell ⟨n + 3, 0, none⟩ (.int .i64 lim)).heap[n + 3]? = some (.cells #[.int .i64 lim, u] RT (0, 0)) := by rw [heap_setCell_same _ _ _ _ _ _ h.e3]; rfl
  have f2 : ((W.setCell ⟨n + 3, 0, none⟩ (.int .i64 lim)).setCell ⟨n + 3, 1, none⟩ u').heap[n + 3]? = some (.cells #[.int .i64 lim, u'] RT (0, 0)) := by rw [heap_setCell_same _ _ _ _ _ _ f1]; rfl
  refine ⟨?_, ?_, ?_, f2⟩
  · rw [heap_setCell_other _ _ _ _ (by simp), heap_setCell_other _ _ _ _ (by simp)]; exact h.e0
  · rw [heap_setCell_other _ _ _ _ (by simp), heap_setCell_other _ _ _ _ (by simp)]; exact h.e1
  · rw [heap_setCell_other _ _ _ _ (by simp), heap_setCell_other _ _ _ _ (by simp)]; exact h.e2
/-- The cells. -/
theorem DM.cells {n : Nat} {W : World} {lim : Int} {v u : Value} {k i x : Int} (h : DM n W lim v u k i x) :
    W.cell? ⟨n, 0, none⟩ = some (.int .i64 lim) ∧ W.cell? ⟨n, 1, none⟩ = some v ∧
    W.cell? ⟨n + 1, 0, none⟩ = some (.int .i64 k) ∧ W.cell? ⟨n + 1, 1, none⟩ = some (.int .i64 i) ∧ W.cell? ⟨n + 1, 2, none⟩ = some (.int .i64 x) ∧
    W.cell? ⟨n + 2, 0, none⟩ = some (.int .i64 0) ∧ W.cell? ⟨n + 2, 1, none⟩ = some (.slice none 0 0) ∧ W.frozen? ⟨n + 2, 0, none⟩ = false ∧ W.frozen? ⟨n + 2, 1, none⟩ = false ∧
    W.cell? ⟨n + 3, 0, none⟩ = some (.int .i64 lim) ∧ W.cell? ⟨n + 3, 1, none⟩ = some u ∧ W.frozen? ⟨n + 3, 0, none⟩ = false ∧ W.frozen? ⟨n + 3, 1, none⟩ = false ∧
    n < W.heap.size ∧ n + 1 < W.heap.size ∧ n + 2 < W.heap.size ∧ n + 3 < W.heap.size :=
  ⟨(cell_of_row _ _ _ _ _ _ h.e0).trans rfl, (cell_of_row _ _ _ _ _ _ h.e0).trans rfl,
   (cell_of_row _ _ _ _ _ _ h.e1).trans rfl, (cell_of_row _ _ _ _ _ _ h.e1).trans rfl, (cell_of_row _ _ _ _ _ _ h.e1).trans rfl,
   (cell_of_row _ _ _ _ _ _ h.e2).trans rfl, (cell_of_row _ _ _ _ _ _ h.e2).trans rfl, frozen_of_row W _ 0 _ _ h.e2, frozen_of_row W _ 1 _ _ h.e2,
   (cell_of_row _ _ _ _ _ _ h.e3).trans rfl, (cell_of_row _ _ _ _ _ _ h.e3).trans rfl, frozen_of_row W _ 0 _ _ h.e3, frozen_of_row W _ 1 _ _ h.e3,
   lt_of_block h.e0, lt_of_block h.e1, lt_of_block h.e2, lt_of_block h.e3⟩

/-- What the program's call has done to the queue. -/
def Turn (B : Nat) (A' : Qu) (b : Nat) (s : Value) (W W' : World) : Prop := ∃ s', PQ QT_I ET_I 1 B W' A' b s' ∧ Keeps (fun x => x = b ∨ s.ownBlock = some x) W W'
theorem Turn.stay {B : Nat} {A : Qu} {b : Nat} {s : Value} {W : World} (h : PQ QT_I ET_I 1 B W A b s) : Turn B A b s W W := ⟨s, h, Keeps.refl _ _⟩
/-- What do answers. -/
def DoPost (B : Nat) (w : World) (lim : Int) (A' : Qu) (b : Nat) (s : Value) (l' : List Int) (e : Ending) (w' : World) : Prop :=
  ∃ v', e = .returned (.tuple #[.agg #[.int .i64 lim, v'], .bool true]) ∧ Nums w' v' l' ∧ Turn B A' b s w w'

/-- The slice's row through the program's call. -/
theorem nums_turn {B : Nat} {A : Qu} {b : Nat} {s u : Value} {l : List Int} {W W' : World} (hn : Nums W u l) (hq : PQ QT_I ET_I 1 B W A b s) (hk : Keeps (fun x => x = b ∨ s.ownBlock = some x) W W') : Nums W' u l := hq.row hk hn (by decide) (by decide)
theorem nums_not {X : Nat} {W : World} {u : Value} {l : List Int} {cs : Array Value} {t : TypeId} {fr : Nat × Nat} (hn : Nums W u l) (hX : W.heap[X]? = some (.cells cs t fr)) (ht : t ≠ NT) : u.ownBlock ≠ some X := by
  intro e
  rcases hn.2 with ⟨rfl, _⟩ | ⟨g, cap, cur, rfl, _, hg, _⟩
  · simp [Value.ownBlock] at e
  · simp [Value.ownBlock] at e
    subst e
    rw [hg] at hX; cases hX; exact ht rfl
theorem pq_set2 {B : Nat} {A : Qu} {b : Nat} {s : Value} {W : World} (h : PQ QT_I ET_I 1 B W A b s) {q : Nat} {cs : Array Value} {fr : Nat × Nat} (hq : W.heap[q]? = some (.cells cs RT fr)) (u0 u1 : Value) : PQ QT_I ET_I 1 B ((W.setCell ⟨q, 0, none⟩ u0).setCell ⟨q, 1, none⟩ u1) A b s := by
  have ho := h.other hq (by decide) (by decide)
  exact h.keeps (S := fun x => x = q) (((Keeps.refl (fun x => x = q) W).setCell ⟨q, 0, none⟩ u0 (.inl rfl)).setCell ⟨q, 1, none⟩ u1 (.inl rfl)) (fun e => ho (.inl e.symm)) (fun g e1 e2 => ho (.inr (by subst e2; exact e1)))
theorem nums_set2 {W : World} {u : Value} {l : List Int} (h : Nums W u l) {q : Nat} {cs : Array Value} {fr : Nat × Nat} (hq : W.heap[q]? = some (.cells cs RT fr)) (u0 u1 : Value) : Nums ((W.setCell ⟨q, 0, none⟩ u0).setCell ⟨q, 1, none⟩ u1) u l := by
  have hn := nums_not h hq (by decide)
  exact ownsRow_setCell_other (ownsRow_setCell_other h (a := ⟨q, 0, none⟩) hn u0) (a := ⟨q, 1, none⟩) hn u1
/-- The end: what comes next is handed back. -/
theorem do_end {B : Nat} {w W : World} {lim : Int} {A' : Qu} {b : Nat} {s s' v u : Value} {l' : List Int} {k i x : Int} (hd : DM w.heap.size W lim v u k i x) (hq : PQ QT_I ET_I 1 B W A' b s') (hn : Nums W u l') (hk : Keeps (fun x => x = b ∨ s.ownBlock = some x) w W) :
    DoPost B w lim A' b s l' (.returned (.tuple #[.agg #[.int .i64 lim, u], .bool true])) ((W.setCell ⟨w.heap.size + 2, 0, none⟩ (.int .i64 lim)).setCell ⟨w.heap.size + 2, 1, none⟩ u) :=
  ⟨u, rfl, nums_set2 hn hd.e2 _ _, s', pq_set2 hq hd.e2 _ _, (hk.setCell _ _ (.inr (by simp))).setCell _ _ (.inr (by simp))⟩

set_option maxHeartbeats 4000000 in
set_option maxRecDepth 100000 in
theorem do_push (B : Nat) (w : World) (A A' : Qu) (b : Nat) (s v : Value) (l l' : List Int) (kind i x n : Int) (hq : PQ QT_I ET_I 1 B w A b s) (hB : B ≤ w.heap.size) (hn : Nums w v l) (hw : way kind = 0 ∨ way kind = 1 ∨ way kind = 2)
    (hr : ∀ W, Nums W v l → Calls Try.prog 42 #[.agg #[.int .i64 A.limit, v], .int .i64 x] W (RPost W A.limit l' [.int .i64 n]))
    (hp : ∀ W, PQ QT_I ET_I 1 B W A b s → B ≤ W.heap.size → Calls Try.prog 18 #[.pointer (some ⟨b, 0, none⟩), .int .i64 x] W fun e w' => e = .returned (errV n) ∧ Turn B A' b s W w') :
    Calls Try.prog 12 #[.pointer (some ⟨b, 0, none⟩), .agg #[.int .i64 A.limit, v], .agg #[.int .i64 kind, .int .i64 i, .int .i64 x]] w (DoPost B w A.limit A' b s l') := by
  obtain ⟨y0, y1⟩ := way_in kind
  obtain ⟨p, cap, rfl, _⟩ := own_small hn
  have HQ := Lib.hid hq
  have HN := Lib.hid hn
  have HR := Lib.hid hr
  have HP := Lib.hid hp
  have HS := Lib.hid (DM.start w A.limit (.slice p l.length cap) kind i x)
  clear hq hn hr hp
  unfold way at hw
  have HBW := Lib.hid (show ∀ o0 o1 o2 o3, Below w.heap.size w ((((w.alloc o0).alloc o1).alloc o2).alloc o3) from fun o0 o1 o2 o3 => (((((Below.refl _ w).alloc (Nat.le_refl _) o0).alloc (by simp) o1).alloc (by simp; omega) o2).alloc (by simp; omega) o3))
  rcases hw with hw | hw | hw
  all_goals
    go_enter Try.func12, Try.ntmps12
    go_wp2_with fail
    refine (HR.out _ (own_below HN.out (HBW.out _ _ _ _))).mono ?_
    rintro e w1 ⟨v', rfl, hn1, hb1⟩
    obtain ⟨p', cap', rfl, _⟩ := own_small hn1
    have hd1 := HS.out.below hb1
    have hbw1 := (HBW.out _ _ _ _).trans (hb1.mono (by simp <;> omega))
    obtain ⟨c0, c1, c2, c3, c4, c5, c6, c7, c8, c9, c10, c11, c12, c13, c14, c15, c16⟩ := hd1.cells
    have HD1 := Lib.hid hd1
    have HN1 := Lib.hid hn1
    have HB1 := Lib.hid hbw1
    clear hd1 hn1 hb1 hbw1
    go_wp2_with fail
    have hq1 := pq_set2 (HQ.out.below HB1.out) HD1.out.e3 (.int .i64 A.limit) (.slice p' l'.length cap')
    refine (HP.out _ hq1 (by have := HB1.out.size; simp [World.setCell]; omega)).mono ?_
    rintro e w2 ⟨rfl, s', hq2, hk2⟩
    have hd2 := (HD1.out.set (.slice p' l'.length cap')).turn hq1 hk2
    have HN2 := Lib.hid (nums_turn (nums_set2 HN1.out HD1.out.e3 _ _) hq1 hk2)
    have HK2 := Lib.hid ((((Keeps.of_below HB1.out).setCell ⟨w.heap.size + 3, 0, none⟩ (.int .i64 A.limit) (.inr (by simp))).setCell ⟨w.heap.size + 3, 1, none⟩ (.slice p' l'.length cap') (.inr (by simp))).trans hk2)
    have HD2 := Lib.hid hd2
    have HQ2 := Lib.hid hq2
    clear c0 c1 c2 c3 c4 c5 c6 c7 c8 c9 c10 c11 c12 c13 c14 c15 c16
    obtain ⟨c0, c1, c2, c3, c4, c5, c6, c7, c8, c9, c10, c11, c12, c13, c14, c15, c16⟩ := hd2.cells
    clear hq1 hd2 hq2 hk2
    go_wp2_with fail
    refine (num_any n _).mono ?_
    rintro e w3 ⟨rfl, rfl⟩
    go_wp2_with fail
    refine bodyPost_ret (v := .tuple #[.agg #[.int .i64 A.limit, .slice p' l'.length cap'], .bool true]) ?r1 rfl ?_
    case r1 => simp [results, Try.results12, go_sem, c5, c6]
    exact do_end HD2.out HQ2.out HN2.out HK2.out
set_option maxHeartbeats 4000000 in
set_option maxRecDepth 100000 in
theorem do_put (B : Nat) (w : World) (A A' : Qu) (b : Nat) (s v : Value) (l l' : List Int) (kind i x n : Int) (hq : PQ QT_I ET_I 1 B w A b s) (hB : B ≤ w.heap.size) (hn : Nums w v l) (hw : way kind = 4)
    (hr : ∀ W, Nums W v l → Calls Try.prog 44 #[.agg #[.int .i64 A.limit, v], .int .i64 i, .int .i64 x] W (RPost W A.limit l' [.int .i64 n]))
    (hp : ∀ W, PQ QT_I ET_I 1 B W A b s → B ≤ W.heap.size → Calls Try.prog 19 #[.pointer (some ⟨b, 0, none⟩), .int .i64 i, .int .i64 x] W fun e w' => e = .returned (errV n) ∧ Turn B A' b s W w') :
    Calls Try.prog 12 #[.pointer (some ⟨b, 0, none⟩), .agg #[.int .i64 A.limit, v], .agg #[.int .i64 kind, .int .i64 i, .int .i64 x]] w (DoPost B w A.limit A' b s l') := by
  obtain ⟨y0, y1⟩ := way_in kind
  obtain ⟨p, cap, rfl, _⟩ := own_small hn
  have HQ := Lib.hid hq
  have HN := Lib.hid hn
  have HR := Lib.hid hr
  have HP := Lib.hid hp
  have HS := Lib.hid (DM.start w A.limit (.slice p l.length cap) kind i x)
  clear hq hn hr hp
  unfold way at hw
  have HBW := Lib.hid (show ∀ o0 o1 o2 o3, Below w.heap.size w ((((w.alloc o0).alloc o1).alloc o2).alloc o3) from fun o0 o1 o2 o3 => (((((Below.refl _ w).alloc (Nat.le_refl _) o0).alloc (by simp) o1).alloc (by simp; omega) o2).alloc (by simp; omega) o3))
  go_enter Try.func12, Try.ntmps12
  go_wp2_with fail
  refine (HR.out _ (own_below HN.out (HBW.out _ _ _ _))).mono ?_
  rintro e w1 ⟨v', rfl, hn1, hb1⟩
  obtain ⟨p', cap', rfl, _⟩ := own_small hn1
  have hd1 := HS.out.below hb1
  have hbw1 := (HBW.out _ _ _ _).trans (hb1.mono (by simp <;> omega))
  obtain ⟨c0, c1, c2, c3, c4, c5, c6, c7, c8, c9, c10, c11, c12, c13, c14, c15, c16⟩ := hd1.cells
  have HD1 := Lib.hid hd1
  have HN1 := Lib.hid hn1
  have HB1 := Lib.hid hbw1
  clear hd1 hn1 hb1 hbw1
  go_wp2_with fail
  have hq1 := pq_set2 (HQ.out.below HB1.out) HD1.out.e3 (.int .i64 A.limit) (.slice p' l'.length cap')
  refine (HP.out _ hq1 (by have := HB1.out.size; simp [World.setCell]; omega)).mono ?_
  rintro e w2 ⟨rfl, s', hq2, hk2⟩
  have hd2 := (HD1.out.set (.slice p' l'.length cap')).turn hq1 hk2
  have HN2 := Lib.hid (nums_turn (nums_set2 HN1.out HD1.out.e3 _ _) hq1 hk2)
  have HK2 := Lib.hid ((((Keeps.of_below HB1.out).setCell ⟨w.heap.size + 3, 0, none⟩ (.int .i64 A.limit) (.inr (by simp))).setCell ⟨w.heap.size + 3, 1, none⟩ (.slice p' l'.length cap') (.inr (by simp))).trans hk2)
  have HD2 := Lib.hid hd2
  have HQ2 := Lib.hid hq2
  clear c0 c1 c2 c3 c4 c5 c6 c7 c8 c9 c10 c11 c12 c13 c14 c15 c16
  obtain ⟨c0, c1, c2, c3, c4, c5, c6, c7, c8, c9, c10, c11, c12, c13, c14, c15, c16⟩ := hd2.cells
  clear hq1 hd2 hq2 hk2
  go_wp2_with fail
  refine (num_any n _).mono ?_
  rintro e w3 ⟨rfl, rfl⟩
  go_wp2_with fail
  refine bodyPost_ret (v := .tuple #[.agg #[.int .i64 A.limit, .slice p' l'.length cap'], .bool true]) ?r1 rfl ?_
  case r1 => simp [results, Try.results12, go_sem, c5, c6]
  exact do_end HD2.out HQ2.out HN2.out HK2.out
set_option maxHeartbeats 4000000 in
set_option maxRecDepth 100000 in
theorem do_pop (B : Nat) (w : World) (A A' : Qu) (b : Nat) (s v : Value) (l l' : List Int) (kind i x n y : Int) (hq : PQ QT_I ET_I 1 B w A b s) (hB : B ≤ w.heap.size) (hn : Nums w v l) (hw : way kind = 3)
    (hr : ∀ W, Nums W v l → Calls Try.prog 43 #[.agg #[.int .i64 A.limit, v], .int .i64 0] W (RPost W A.limit l' [.int .i64 y, .int .i64 n]))
    (hp : ∀ W, PQ QT_I ET_I 1 B W A b s → B ≤ W.heap.size → Calls Try.prog 14 #[.pointer (some ⟨b, 0, none⟩)] W fun e w' => e = .returned (.tuple #[.int .i64 y, errV n]) ∧ Turn B A' b s W w') :
    Calls Try.prog 12 #[.pointer (some ⟨b, 0, none⟩), .agg #[.int .i64 A.limit, v], .agg #[.int .i64 kind, .int .i64 i, .int .i64 x]] w (DoPost B w A.limit A' b s l') := by
  obtain ⟨y0, y1⟩ := way_in kind
  obtain ⟨p, cap, rfl, _⟩ := own_small hn
  have HQ := Lib.hid hq
  have HN := Lib.hid hn
  have HR := Lib.hid hr
  have HP := Lib.hid hp
  have HS := Lib.hid (DM.start w A.limit (.slice p l.length cap) kind i x)
  clear hq hn hr hp
  unfold way at hw
  have HBW := Lib.hid (show ∀ o0 o1 o2 o3, Below w.heap.size w ((((w.alloc o0).alloc o1).alloc o2).alloc o3) from fun o0 o1 o2 o3 => (((((Below.refl _ w).alloc (Nat.le_refl _) o0).alloc (by simp) o1).alloc (by simp; omega) o2).alloc (by simp; omega) o3))
  go_enter Try.func12, Try.ntmps12
  go_wp2_with fail
  refine (HR.out _ (own_below HN.out (HBW.out _ _ _ _))).mono ?_
  rintro e w1 ⟨v', rfl, hn1, hb1⟩
  obtain ⟨p', cap', rfl, _⟩ := own_small hn1
  have hd1 := HS.out.below hb1
  have hbw1 := (HBW.out _ _ _ _).trans (hb1.mono (by simp <;> omega))
  obtain ⟨c0, c1, c2, c3, c4, c5, c6, c7, c8, c9, c10, c11, c12, c13, c14, c15, c16⟩ := hd1.cells
  have HD1 := Lib.hid hd1
  have HN1 := Lib.hid hn1
  have HB1 := Lib.hid hbw1
  clear hd1 hn1 hb1 hbw1
  go_wp2_with fail
  have hq1 := pq_set2 (HQ.out.below HB1.out) HD1.out.e3 (.int .i64 A.limit) (.slice p' l'.length cap')
  refine (HP.out _ hq1 (by have := HB1.out.size; simp [World.setCell]; omega)).mono ?_
  rintro e w2 ⟨rfl, s', hq2, hk2⟩
  have hd2 := (HD1.out.set (.slice p' l'.length cap')).turn hq1 hk2
  have HN2 := Lib.hid (nums_turn (nums_set2 HN1.out HD1.out.e3 _ _) hq1 hk2)
  have HK2 := Lib.hid ((((Keeps.of_below HB1.out).setCell ⟨w.heap.size + 3, 0, none⟩ (.int .i64 A.limit) (.inr (by simp))).setCell ⟨w.heap.size + 3, 1, none⟩ (.slice p' l'.length cap') (.inr (by simp))).trans hk2)
  have HD2 := Lib.hid hd2
  have HQ2 := Lib.hid hq2
  clear c0 c1 c2 c3 c4 c5 c6 c7 c8 c9 c10 c11 c12 c13 c14 c15 c16
  obtain ⟨c0, c1, c2, c3, c4, c5, c6, c7, c8, c9, c10, c11, c12, c13, c14, c15, c16⟩ := hd2.cells
  clear hq1 hd2 hq2 hk2
  go_wp2_with fail
  refine (num_any n _).mono ?_
  rintro e w3 ⟨rfl, rfl⟩
  go_wp2_with fail
  refine bodyPost_ret (v := .tuple #[.agg #[.int .i64 A.limit, .slice p' l'.length cap'], .bool true]) ?r1 rfl ?_
  case r1 => simp [results, Try.results12, go_sem, c5, c6]
  exact do_end HD2.out HQ2.out HN2.out HK2.out
set_option maxHeartbeats 4000000 in
set_option maxRecDepth 100000 in
theorem do_drop (B : Nat) (w : World) (A A' : Qu) (b : Nat) (s v : Value) (l l' : List Int) (kind i x n y : Int) (hq : PQ QT_I ET_I 1 B w A b s) (hB : B ≤ w.heap.size) (hn : Nums w v l) (hw : way kind = 5)
    (hr : ∀ W, Nums W v l → Calls Try.prog 43 #[.agg #[.int .i64 A.limit, v], .int .i64 i] W (RPost W A.limit l' [.int .i64 y, .int .i64 n]))
    (hp : ∀ W, PQ QT_I ET_I 1 B W A b s → B ≤ W.heap.size → Calls Try.prog 17 #[.pointer (some ⟨b, 0, none⟩), .int .i64 i] W fun e w' => e = .returned (.tuple #[.int .i64 y, errV n]) ∧ Turn B A' b s W w') :
    Calls Try.prog 12 #[.pointer (some ⟨b, 0, none⟩), .agg #[.int .i64 A.limit, v], .agg #[.int .i64 kind, .int .i64 i, .int .i64 x]] w (DoPost B w A.limit A' b s l') := by
  obtain ⟨y0, y1⟩ := way_in kind
  obtain ⟨p, cap, rfl, _⟩ := own_small hn
  have HQ := Lib.hid hq
  have HN := Lib.hid hn
  have HR := Lib.hid hr
  have HP := Lib.hid hp
  have HS := Lib.hid (DM.start w A.limit (.slice p l.length cap) kind i x)
  clear hq hn hr hp
  unfold way at hw
  have HBW := Lib.hid (show ∀ o0 o1 o2 o3, Below w.heap.size w ((((w.alloc o0).alloc o1).alloc o2).alloc o3) from fun o0 o1 o2 o3 => (((((Below.refl _ w).alloc (Nat.le_refl _) o0).alloc (by simp) o1).alloc (by simp; omega) o2).alloc (by simp; omega) o3))
  go_enter Try.func12, Try.ntmps12
  go_wp2_with fail
  refine (HR.out _ (own_below HN.out (HBW.out _ _ _ _))).mono ?_
  rintro e w1 ⟨v', rfl, hn1, hb1⟩
  obtain ⟨p', cap', rfl, _⟩ := own_small hn1
  have hd1 := HS.out.below hb1
  have hbw1 := (HBW.out _ _ _ _).trans (hb1.mono (by simp <;> omega))
  obtain ⟨c0, c1, c2, c3, c4, c5, c6, c7, c8, c9, c10, c11, c12, c13, c14, c15, c16⟩ := hd1.cells
  have HD1 := Lib.hid hd1
  have HN1 := Lib.hid hn1
  have HB1 := Lib.hid hbw1
  clear hd1 hn1 hb1 hbw1
  go_wp2_with fail
  have hq1 := pq_set2 (HQ.out.below HB1.out) HD1.out.e3 (.int .i64 A.limit) (.slice p' l'.length cap')
  refine (HP.out _ hq1 (by have := HB1.out.size; simp [World.setCell]; omega)).mono ?_
  rintro e w2 ⟨rfl, s', hq2, hk2⟩
  have hd2 := (HD1.out.set (.slice p' l'.length cap')).turn hq1 hk2
  have HN2 := Lib.hid (nums_turn (nums_set2 HN1.out HD1.out.e3 _ _) hq1 hk2)
  have HK2 := Lib.hid ((((Keeps.of_below HB1.out).setCell ⟨w.heap.size + 3, 0, none⟩ (.int .i64 A.limit) (.inr (by simp))).setCell ⟨w.heap.size + 3, 1, none⟩ (.slice p' l'.length cap') (.inr (by simp))).trans hk2)
  have HD2 := Lib.hid hd2
  have HQ2 := Lib.hid hq2
  clear c0 c1 c2 c3 c4 c5 c6 c7 c8 c9 c10 c11 c12 c13 c14 c15 c16
  obtain ⟨c0, c1, c2, c3, c4, c5, c6, c7, c8, c9, c10, c11, c12, c13, c14, c15, c16⟩ := hd2.cells
  clear hq1 hd2 hq2 hk2
  go_wp2_with fail
  refine (num_any n _).mono ?_
  rintro e w3 ⟨rfl, rfl⟩
  go_wp2_with fail
  refine bodyPost_ret (v := .tuple #[.agg #[.int .i64 A.limit, .slice p' l'.length cap'], .bool true]) ?r1 rfl ?_
  case r1 => simp [results, Try.results12, go_sem, c5, c6]
  exact do_end HD2.out HQ2.out HN2.out HK2.out
end Go.Proofs.Ytdpchojfgcjbeaa
