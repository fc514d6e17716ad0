/- The walk of AdmitExact: whatever the row of acts, it answers true; no condition. -/
import Derived.Test.YtilbohjkkdkdiaaGWorks
import Derived.Test.YtilbohjkkdkdiaaGOpens
import Derived.Deep.RegionHeld3
namespace Go.Proofs.Ytilbohjkkdkdiaa
open Go.RowKit

theorem tm_in (x m : Int) (h : 0 < m) : -m < x.tmod m ∧ x.tmod m < m := by
  refine ⟨Int.neg_lt_of_neg_lt ?_, Int.tmod_lt_of_pos _ h⟩
  have := Int.tmod_lt_of_pos (-x) (b := m) h
  rw [Int.neg_tmod] at this
  omega
theorem tm_nat (x m : Int) (h : 0 < m) : 0 ≤ (x.tmod m + m).tmod m ∧ (x.tmod m + m).tmod m < m := by
  have := tm_in x m h
  exact ⟨Int.tmod_nonneg _ (by omega), Int.tmod_lt_of_pos _ h⟩
theorem tm_mod (x m : Int) (h : 0 < m) : (x.tmod m + m) % m = (x.tmod m + m).tmod m := by
  have := tm_in x m h
  exact (Int.tmod_eq_emod_of_nonneg (by omega)).symm
/-- A block of four cells known whole. -/
def C4 (T : TypeId) (w : World) (q : Nat) (a n x : Int) (d : Bool) : Prop := w.heap[q]? = some (.cells #[.int .i64 a, .int .i64 n, .int .i64 x, .bool d] T (0, 0))
theorem C4.below {T : TypeId} {w w' : World} {q : Nat} {a n x : Int} {d : Bool} (h : C4 T w q a n x d) (hb : Below w.heap.size w w') : C4 T w' q a n x d := (hb.block q (lt_of_block h)).trans h
theorem C4.keeps {T : TypeId} {S : Nat → Prop} {w w' : World} {q : Nat} {a n x : Int} {d : Bool} (h : C4 T w q a n x d) (hk : Keeps S w w') (hn : ¬ S q) : C4 T w' q a n x d := (hk.block q (lt_of_block h) hn).trans h
theorem C4.alloc {T : TypeId} {w : World} {q : Nat} {a n x : Int} {d : Bool} (h : C4 T w q a n x d) (o : Obj) : C4 T (w.alloc o) q a n x d := (Below.heap_alloc _ _ _ (lt_of_block h)).trans h
theorem C4.new (T : TypeId) (w : World) (a n x : Int) (d : Bool) : C4 T (w.alloc (.cells #[.int .i64 a, .int .i64 n, .int .i64 x, .bool d] T)) w.heap.size a n x d := heap_alloc_new w _
theorem C4.cells {T : TypeId} {w : World} {q : Nat} {a n x : Int} {d : Bool} (h : C4 T w q a n x d) : w.cell? ⟨q, 0, none⟩ = some (.int .i64 a) ∧ w.cell? ⟨q, 1, none⟩ = some (.int .i64 n) ∧ w.cell? ⟨q, 2, none⟩ = some (.int .i64 x) ∧ w.cell? ⟨q, 3, none⟩ = some (.bool d) :=
  ⟨(cell_of_row _ _ _ _ _ _ h).trans rfl, (cell_of_row _ _ _ _ _ _ h).trans rfl, (cell_of_row _ _ _ _ _ _ h).trans rfl, (cell_of_row _ _ _ _ _ _ h).trans rfl⟩
theorem C4.lt {T : TypeId} {w : World} {q : Nat} {a n x : Int} {d : Bool} (h : C4 T w q a n x d) : q < w.heap.size := lt_of_block h
theorem BK.ne4 {w : World} {b q : Nat} {f : Nat → Cl} {T : TypeId} {a n x : Int} {d : Bool} (h : BK BT w b f) (h4 : C4 T w q a n x d) : q ≠ b := by
  intro e
  subst e
  have := h.symm.trans h4
  simp only [Option.some.injEq, Obj.cells.injEq] at this
  have h2 := congrArg Array.size this.1
  rw [arr_size] at h2
  simp at h2
/-- A block of three cells known whole. -/
def A3 (w : World) (q : Nat) (a n x : Int) : Prop := w.heap[q]? = some (.cells #[.int .i64 a, .int .i64 n, .int .i64 x] 29 (0, 0))
theorem A3.below {w w' : World} {q : Nat} {a n x : Int} (h : A3 w q a n x) (hb : Below w.heap.size w w') : A3 w' q a n x := (hb.block q (lt_of_block h)).trans h
theorem A3.alloc {w : World} {q : Nat} {a n x : Int} (h : A3 w q a n x) (o : Obj) : A3 (w.alloc o) q a n x := (Below.heap_alloc _ _ _ (lt_of_block h)).trans h
theorem A3.new (w : World) (a n x : Int) : A3 (w.alloc (.cells #[.int .i64 a, .int .i64 n, .int .i64 x] 29)) w.heap.size a n x := heap_alloc_new w _
theorem A3.cells {w : World} {q : Nat} {a n x : Int} (h : A3 w q a n x) : w.cell? ⟨q, 0, none⟩ = some (.int .i64 a) ∧ w.cell? ⟨q, 1, none⟩ = some (.int .i64 n) ∧ w.cell? ⟨q, 2, none⟩ = some (.int .i64 x) :=
  ⟨(cell_of_row _ _ _ _ _ _ h).trans rfl, (cell_of_row _ _ _ _ _ _ h).trans rfl, (cell_of_row _ _ _ _ _ _ h).trans rfl⟩
theorem ActsAt.below {w w' : World} {v : Value} {l : List (Int × Int × Int)} (h : ActsAt w v l) (hb : Below w.heap.size w w') : ActsAt w' v l := by
  obtain ⟨p, cap, e, hl, hc⟩ := h
  refine ⟨p, cap, e, hl, fun j x0 x1 x2 hj => ?_⟩
  obtain ⟨b, off, e2, c0, c1, c2⟩ := hc j x0 x1 x2 hj
  exact ⟨b, off, e2, (hb.cell (cell_lt c0)).trans c0, (hb.cell (cell_lt c1)).trans c1, (hb.cell (cell_lt c2)).trans c2⟩
theorem sum_at (b : Nat) (f : Nat → Cl) (S : Int) (hS : sumTo f 64 = S) (hG : Good f) (w : World) (hb : BK BT w b f) : Calls Try.prog 23 #[.pointer (some ⟨b, 0, none⟩)] w fun e w' => e = .returned (.int .i64 S) ∧ Below w.heap.size w w' := by
  have := sum_book b f w hb hG.small
  rwa [hS] at this
theorem free_at (b : Nat) (f : Nat → Cl) (S : Int) (hS : sumTo f 64 = S) (hG : Good f) (w : World) (hb : BK BT w b f) : Calls Try.prog 24 #[.pointer (some ⟨b, 0, none⟩)] w fun e w' => e = .returned (.int .i64 (1048576 - S)) ∧ Below w.heap.size w w' := by
  have := free_book b f w hb hG.small
  rwa [hS] at this

/-- What a region's call leaves: the cells of W0, the book. -/
theorem keepE {b : Nat} {f : Nat → Cl} {W0 w w1 w2 : World} (h : ∀ b o, b < W0.heap.size → w1.cell? ⟨b, o, none⟩ = W0.cell? ⟨b, o, none⟩) (hl : BK BT w1 b f) (hB : Below w.heap.size w w1) (hz : W0.heap.size ≤ w1.heap.size) (hb : Below w1.heap.size w1 w2) :
    (∀ b o, b < W0.heap.size → w2.cell? ⟨b, o, none⟩ = W0.cell? ⟨b, o, none⟩) ∧ BK BT w2 b f ∧ Below w.heap.size w w2 ∧ W0.heap.size ≤ w2.heap.size :=
  ⟨fun b o k => (hb.cell (p := ⟨b, o, none⟩) (Nat.lt_of_lt_of_le k hz)).trans (h b o k), hl.below hb, bnext hB hb, Nat.le_trans hz hb.size⟩
/-- What the loop carries. -/
def ExI (w : World) (wr : World) (f : Nat → Cl) : Prop := BK BT wr w.heap.size f ∧ Good f ∧ Below w.heap.size w wr

theorem of_any (b : Nat) (f : Nat → Cl) (k : Nat) (w : World) (hk : k < 64) (hb : BK BT w b f) (hG : Good f) : Calls Try.prog 19 #[.pointer (some ⟨b, 0, none⟩), .int .i64 k] w fun e w' => e = .returned (.tuple #[.agg #[.int .i64 (f k).s, .int .i64 (f k).n, .int .i64 (f k).x, .bool (f k).d], .bool (decide (1 ≤ (f k).n))]) ∧ Below w.heap.size w w' := by
  by_cases hn : 1 ≤ (f k).n
  · rw [decide_eq_true hn]; exact of_there b f k w hk hb hn
  · have hz := hG.gone hk hn
    have := of_gone b f k w hk hb hz
    rw [decide_eq_false hn, hz]; exact this
theorem addS {f : Nat → Cl} (hG : Good f) {k : Nat} (_ : k < 64) (n : Int) (h1 : 1 ≤ n) (h2 : n ≤ 1048576) :
    (1 ≤ (f k).n ∧ addE f k n = 30 ∧ addF f k n = f) ∨ (¬ 1 ≤ (f k).n ∧ addE f k n = 80 ∧ addF f k n = f ∧ 1048576 < sumTo f 64 + n) ∨ (¬ 1 ≤ (f k).n ∧ addE f k n = 0 ∧ sumTo f 64 + n ≤ 1048576) := by
  have hw := add_way hG k n
  generalize addE f k n = e at *
  generalize addF f k n = g at *
  cases hw with
  | arg h => omega
  | room j hs hj h => obtain rfl : k = j := (by omega); exact .inl ⟨h, rfl, rfl⟩
  | range j hs hj h hn => omega
  | over j hs hj h _ _ ho => obtain rfl : k = j := (by omega); exact .inr (.inl ⟨by rw [h]; simp [zc], rfl, rfl, ho⟩)
  | ok j hs hj h _ _ ho => obtain rfl : k = j := (by omega); exact .inr (.inr ⟨by rw [h]; simp [zc], rfl, ho⟩)
theorem resS {f : Nat → Cl} (hG : Good f) {k : Nat} (hk : k < 64) (n : Int) (h1 : 1 ≤ n) (h2 : n ≤ 1048576) :
    (¬ 1 ≤ (f k).n ∧ resE f k n = 20) ∨ (1 ≤ (f k).n ∧ (f k).d = true ∧ resE f k n = 92) ∨ (1 ≤ (f k).n ∧ (f k).d = false ∧ resE f k n = 80 ∧ 1048576 < sumTo f 64 - max (f k).n (f k).x + max (f k).n n) ∨ (1 ≤ (f k).n ∧ (f k).d = false ∧ resE f k n = 0 ∧ sumTo f 64 - max (f k).n (f k).x + max (f k).n n ≤ 1048576) := by
  have hw := res_way hG k n
  generalize resE f k n = e at *
  generalize resF f k n = g at *
  cases hw with
  | no h => exact .inl ⟨fun e => h ((there_nat hk).2 e), rfl⟩
  | dying j a x hs hj h ha => obtain rfl : k = j := (by omega); exact .inr (.inl ⟨by rw [h]; exact ha, by rw [h], rfl⟩)
  | range j a x hs hj h ha hn => omega
  | over j a x hs hj h ha _ _ _ ho => obtain rfl : k = j := (by omega); exact .inr (.inr (.inl ⟨by rw [h]; exact ha, by rw [h], rfl, by rw [h] at ho ⊢; exact ho⟩))
  | ok j a x hs hj h ha _ _ _ ho => obtain rfl : k = j := (by omega); exact .inr (.inr (.inr ⟨by rw [h]; exact ha, by rw [h], rfl, by rw [h] at ho ⊢; exact ho⟩))
theorem dieS {f : Nat → Cl} (hG : Good f) {k : Nat} (_ : k < 64) : (dieE f k = 20) ∨ (dieE f k = 92) ∨ (dieE f k = 0 ∧ sumTo (dieF f k) 64 = sumTo f 64) := by
  have hw := die_way hG k
  generalize dieE f k = e at *
  generalize dieF f k = g at *
  cases hw with
  | no h => exact .inl rfl
  | dying j a x hs hj h ha => exact .inr (.inl rfl)
  | ok j a x hs hj h ha _ _ _ =>
    refine .inr (.inr ⟨rfl, ?_⟩)
    rw [sumTo_upd f j _ 64 hj, h]
    have e : cnt ⟨j, a, x, false⟩ = cnt ⟨j, a, x, true⟩ := rfl
    omega
/-- What Cross leaves at the slot. -/
theorem croS {f : Nat → Cl} (hG : Good f) {k : Nat} (hk : k < 64) :
    (¬ 1 ≤ (f k).n ∧ croE f k = 20 ∧ croW f k = 0 ∧ croF f k k = zc) ∨ (1 ≤ (f k).n ∧ (f k).d = true ∧ croE f k = 0 ∧ croW f k = 2 ∧ croF f k k = zc ∧ sumTo (croF f k) 64 = sumTo f 64 - max (f k).n (f k).x) ∨
    (1 ≤ (f k).n ∧ (f k).d = false ∧ croE f k = 0 ∧ croW f k = 0 ∧ croF f k k = ⟨k, (f k).n, 0, false⟩ ∧ sumTo (croF f k) 64 = sumTo f 64 - max (f k).n (f k).x + (f k).n) ∨
    (1 ≤ (f k).n ∧ (f k).d = false ∧ croE f k = 0 ∧ croW f k = 1 ∧ 1 ≤ (f k).x ∧ croF f k k = ⟨k, (f k).x, 0, false⟩ ∧ sumTo (croF f k) 64 = sumTo f 64 - max (f k).n (f k).x + (f k).x) := by
  have hw := cro_way hG k
  generalize croE f k = e at *
  generalize croW f k = v at *
  generalize croF f k = g at *
  cases hw with
  | no h =>
    have hn : ¬ 1 ≤ (f k).n := fun e => h ((there_nat hk).2 e)
    exact .inl ⟨hn, rfl, rfl, hG.gone hk hn⟩
  | gone j a x hs hj h ha =>
    obtain rfl : k = j := by omega
    refine .inr (.inl ⟨by rw [h]; exact ha, by rw [h], rfl, rfl, upd_same _ _ _, ?_⟩)
    rw [sumTo_upd f k _ 64 hk, cnt_zc, h]
    unfold cnt; omega
  | stays j a hs hj h ha =>
    obtain rfl : k = j := by omega
    refine .inr (.inr (.inl ⟨by rw [h]; exact ha, by rw [h], rfl, rfl, by rw [h], ?_⟩))
    rw [h]; simp only; omega
  | switched j a x hs hj h ha hx _ =>
    obtain rfl : k = j := by omega
    refine .inr (.inr (.inr ⟨by rw [h]; exact ha, by rw [h], rfl, rfl, by rw [h]; exact hx, by rw [h]; exact upd_same _ _ _, ?_⟩))
    rw [sumTo_upd f k _ 64 hk, h]
    unfold cnt; simp only; omega
end Go.Proofs.Ytilbohjkkdkdiaa
