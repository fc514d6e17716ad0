/- A book in a world: one block of 64 claims; what is loaded, stored, made, taken out of such an array; a slice of claims; no condition but those that each row names. -/
import Derived.Test.YtilbohjkkdkdiaaGMath
import Derived.Test.YtilbohjkkdkdiaaProg
import Derived.RegionTactic
import Derived.IntWalk
import Derived.Deep.QuietTactic
import Derived.BigQuiet
import Derived.Deep.Upon
import Derived.Shelf.Abstract
import Derived.Deep.AppendLies
namespace Go.Proofs.Ytilbohjkkdkdiaa
open Go.RowKit

abbrev PT : TypeId := 35
abbrev RT : TypeId := 36
abbrev AT : TypeId := 59
abbrev BT : TypeId := 61
theorem Try.infArr : (Try.prog.info? AT).map (fun i => (i.zero, i.size, i.bytes)) = some (some (.agg (arr (fun _ => zc))), 256, 2048) := by kernel_rfl
theorem Try.infBook : (Try.prog.info? BT).map (fun i => (i.zero, i.size, i.bytes)) = some (some (.agg (arr (fun _ => zc))), 256, 2048) := by kernel_rfl
theorem Try.infP : (Try.prog.info? PT).map (fun i => (i.zero, i.size, i.bytes)) = some (some (.agg #[.int .i64 0, .int .i64 0, .int .i64 0, .bool false]), 4, 32) := by kernel_rfl
theorem Try.infR : (Try.prog.info? RT).map (fun i => (i.zero, i.size, i.bytes)) = some (some (.agg #[.int .i64 0, .int .i64 0, .int .i64 0, .bool false]), 4, 32) := by kernel_rfl

/-- Block b is an array of 64 claims. -/
def BK (T : TypeId) (w : World) (b : Nat) (f : Nat → Cl) : Prop := w.heap[b]? = some (.cells (arr f) T (0, 0))
theorem BK.lt {T : TypeId} {w : World} {b : Nat} {f : Nat → Cl} (h : BK T w b f) : b < w.heap.size := (Array.getElem?_eq_some_iff.1 h).1
theorem BK.below {T : TypeId} {w w' : World} {b : Nat} {f : Nat → Cl} (h : BK T w b f) (hb : Below w.heap.size w w') : BK T w' b f := (hb.block b h.lt).trans h
theorem BK.keeps {T : TypeId} {S : Nat → Prop} {w w' : World} {b : Nat} {f : Nat → Cl} (h : BK T w b f) (hk : Keeps S w w') (hn : ¬ S b) : BK T w' b f := (hk.block b h.lt hn).trans h
theorem BK.alloc {T : TypeId} {w : World} {b : Nat} {f : Nat → Cl} (h : BK T w b f) (o : Obj) : BK T (w.alloc o) b f := (heap_alloc_old w o (BK.lt h)).trans h
theorem BK.new (T : TypeId) (w : World) (f : Nat → Cl) : BK T (w.alloc (.cells (arr f) T)) w.heap.size f := heap_alloc_new w _
theorem BK.other {T : TypeId} {w : World} {b : Nat} {f : Nat → Cl} (h : BK T w b f) (a : Addr) (v : Value) (hn : b ≠ a.block) : BK T (w.setCell a v) b f := (heap_setCell_other w a b v hn).trans h
theorem BK.drew {T : TypeId} {w : World} {b : Nat} {f : Nat → Cl} (h : BK T w b f) : BK T w.drew b f := h
theorem BK.cells {T : TypeId} {w : World} {b : Nat} {f : Nat → Cl} (h : BK T w b f) (k : Nat) (hk : k < 64) :
    w.cell? ⟨b, k * 4, none⟩ = some (.int .i64 (f k).s) ∧ w.cell? ⟨b, k * 4 + 1, none⟩ = some (.int .i64 (f k).n) ∧ w.cell? ⟨b, k * 4 + 2, none⟩ = some (.int .i64 (f k).x) ∧ w.cell? ⟨b, k * 4 + 3, none⟩ = some (.bool (f k).d) := by
  obtain ⟨h0, h1, h2, h3⟩ := arr_at f k hk
  exact ⟨(cell_of_row _ _ _ _ _ _ h).trans h0, (cell_of_row _ _ _ _ _ _ h).trans h1, (cell_of_row _ _ _ _ _ _ h).trans h2, (cell_of_row _ _ _ _ _ _ h).trans h3⟩
theorem BK.free {T : TypeId} {w : World} {b : Nat} {f : Nat → Cl} (h : BK T w b f) (j : Nat) : w.frozen? ⟨b, j, none⟩ = false := frozen_of_row _ _ _ _ _ h
theorem BK.uniq {T : TypeId} {w : World} {b : Nat} {f g : Nat → Cl} (h : BK T w b f) (h' : BK T w b g) : arr f = arr g := by
  have := h.symm.trans h'; simpa using this
/-- The store of a claim at its place. -/
theorem BK.set {T : TypeId} {w : World} {b : Nat} {f : Nat → Cl} (h : BK T w b f) (k : Nat) (c : Cl) :
    BK T ((((w.setCell ⟨b, k * 4, none⟩ (.int .i64 c.s)).setCell ⟨b, k * 4 + 1, none⟩ (.int .i64 c.n)).setCell ⟨b, k * 4 + 2, none⟩ (.int .i64 c.x)).setCell ⟨b, k * 4 + 3, none⟩ (.bool c.d)) b (upd f k c) := by
  unfold BK at h ⊢
  have h1 := heap_setCell_same w b (k * 4) _ _ (.int .i64 c.s) h
  have h2 := heap_setCell_same _ b (k * 4 + 1) _ _ (.int .i64 c.n) h1
  have h3 := heap_setCell_same _ b (k * 4 + 2) _ _ (.int .i64 c.x) h2
  have h4 := heap_setCell_same _ b (k * 4 + 3) _ _ (.bool c.d) h3
  rw [h4]
  simp only [arr, fl_upd, cells4_set, List.setIfInBounds_toArray]
/-- One cell of a claim. -/
theorem BK.setD {T : TypeId} {w : World} {b : Nat} {f : Nat → Cl} (h : BK T w b f) (k : Nat) (hk : k < 64) (d : Bool) :
    BK T (w.setCell ⟨b, k * 4 + 3, none⟩ (.bool d)) b (upd f k ⟨(f k).s, (f k).n, (f k).x, d⟩) := by
  unfold BK at h ⊢
  have h4 := heap_setCell_same _ b (k * 4 + 3) _ _ (.bool d) h
  rw [h4]
  have e : fl (upd f k ⟨(f k).s, (f k).n, (f k).x, d⟩) = (fl f).set k ⟨(f k).s, (f k).n, (f k).x, d⟩ := fl_upd _ _ _
  obtain ⟨g0, g1, g2, _⟩ := cells4_at (fl f) k (by rw [fl_len]; exact hk)
  rw [fl_get] at g0 g1 g2
  simp only [arr, e, cells4_set, List.setIfInBounds_toArray]
  have s : ∀ (l : List Value) (i : Nat) (v : Value), l[i]? = some v → l.set i v = l := fun l i v hv => by
    apply List.ext_getElem?
    intro j
    rw [List.getElem?_set]
    by_cases e : i = j
    · subst e
      rw [if_pos rfl, hv]
      have := (List.getElem?_eq_some_iff.1 hv).1
      simp [this]
    · rw [if_neg e]
  rw [s _ _ _ g0, s _ _ _ g1, s _ _ _ g2]
theorem BK.keepsS {T : TypeId} {w w' : World} {b : Nat} {f : Nat → Cl} (_ : BK T w b f) (h : Keeps (fun x => x = b) w w') (a : Addr) (v : Value) (ha : a.block = b) : Keeps (fun x => x = b) w (w'.setCell a v) := h.setCell a v (.inl ha)

/-- An array is loaded whole. -/
theorem und_arr : Try.prog.underlying AT = some (.array 64 PT) := by kernel_rfl
theorem inf_size_arr (f : Nat → Cl) : (Try.prog.info? AT).map (·.size) = some (arr f).size := by
  obtain ⟨i, hi, _, hs, _⟩ := info_parts Try.infArr
  rw [hi, arr_size]; simp [hs]
theorem inf_size_book (f : Nat → Cl) : (Try.prog.info? BT).map (·.size) = some (arr f).size := by
  obtain ⟨i, hi, _, hs, _⟩ := info_parts Try.infBook
  rw [hi, arr_size]; simp [hs]
theorem wpList_load_arr {ops : Array Oper} {rest : List Oper} {o : Oper} {a : Act} {w : World} {Q : Exit → Act → World → Prop} (hgd : o.guard = none) (x : Operand) (ho : o.op = .load AT x)
    (g : Nat) (hx : a.eval x = .pointer (some ⟨g, 0, none⟩)) (T : TypeId) (f : Nat → Cl) (hg : BK T w g f)
    (h : wpList Try.prog ops Q rest (a.put o.dst (.agg (arr f))) w) : wpList Try.prog ops Q (o :: rest) a w :=
  wpList_load_row hgd AT x ho g hx T (arr f) (0, 0) _ hg und_arr rfl (inf_size_arr f) h
theorem wpList_load_book {ops : Array Oper} {rest : List Oper} {o : Oper} {a : Act} {w : World} {Q : Exit → Act → World → Prop} (hgd : o.guard = none) (x : Operand) (ho : o.op = .load BT x)
    (g : Nat) (hx : a.eval x = .pointer (some ⟨g, 0, none⟩)) (T : TypeId) (f : Nat → Cl) (hg : BK T w g f)
    (h : wpList Try.prog ops Q rest (a.put o.dst (.agg (arr f))) w) : wpList Try.prog ops Q (o :: rest) a w :=
  wpList_load_row hgd BT x ho g hx T (arr f) (0, 0) _ hg Try.underlying61 rfl (inf_size_book f) h
theorem wpList_store_arr {ops : Array Oper} {rest : List Oper} {o : Oper} {a : Act} {w : World} {Q : Exit → Act → World → Prop} (hgd : o.guard = none) (x y : Operand) (ho : o.op = .store AT x y)
    (g : Nat) (f : Nat → Cl) (hx : a.eval x = .pointer (some ⟨g, 0, none⟩)) (hy : a.eval y = .agg (arr f)) (T : TypeId) (f' : Nat → Cl) (hg : BK T w g f')
    (h : wpList Try.prog ops Q rest (a.put o.dst undef) (w.setRow g (arr f))) : wpList Try.prog ops Q (o :: rest) a w :=
  wpList_store_row hgd AT x y ho g (arr f) hx hy T (arr f') hg (inf_size_arr f) (by rw [arr_size, arr_size]) (arr_one f) h
theorem wpList_store_book {ops : Array Oper} {rest : List Oper} {o : Oper} {a : Act} {w : World} {Q : Exit → Act → World → Prop} (hgd : o.guard = none) (x y : Operand) (ho : o.op = .store BT x y)
    (g : Nat) (f : Nat → Cl) (hx : a.eval x = .pointer (some ⟨g, 0, none⟩)) (hy : a.eval y = .agg (arr f)) (T : TypeId) (f' : Nat → Cl) (hg : BK T w g f')
    (h : wpList Try.prog ops Q rest (a.put o.dst undef) (w.setRow g (arr f))) : wpList Try.prog ops Q (o :: rest) a w :=
  wpList_store_row hgd BT x y ho g (arr f) hx hy T (arr f') hg (inf_size_book f) (by rw [arr_size, arr_size]) (arr_one f) h
theorem BK.row {T : TypeId} {w : World} {g : Nat} {f f' : Nat → Cl} (h : BK T w g f') : BK T (w.setRow g (arr f)) g f := setRow_heap w g _ _ _ _ h
theorem BK.row_other {T : TypeId} {w : World} {g b : Nat} {f : Nat → Cl} {cs : Array Value} (h : BK T w b f) (hn : b ≠ g) : BK T (w.setRow g cs) b f := (setRow_other w g b cs hn).trans h
theorem keeps_row {S : Nat → Prop} {w w' : World} (h : Keeps S w w') (g : Nat) (cs : Array Value) (hg : S g ∨ w.heap.size ≤ g) : Keeps S w (w'.setRow g cs) :=
  ⟨h.os, h.tape, h.output, by simpa using h.size, fun b hb hn => (setRow_other w' g b cs (fun e => by subst e; rcases hg with hg | hg; exact hn hg; omega)).trans (h.block b hb hn)⟩

theorem keeps_self (w : World) (g : Nat) (cs : Array Value) : Keeps (fun x => x = g) w (w.setRow g cs) := keeps_row (Keeps.refl _ w) g cs (.inl rfl)
/-- The same, the world behind it told by what it keeps. -/
theorem wpList_store_arrG {ops : Array Oper} {rest : List Oper} {o : Oper} {a : Act} {w : World} {Q : Exit → Act → World → Prop} (hgd : o.guard = none) (x y : Operand) (ho : o.op = .store AT x y)
    (g : Nat) (f : Nat → Cl) (hx : a.eval x = .pointer (some ⟨g, 0, none⟩)) (hy : a.eval y = .agg (arr f)) (T : TypeId) (f' : Nat → Cl) (hg : BK T w g f')
    (h : ∀ W, BK T W g f → Keeps (fun x => x = g) w W → W.heap.size = w.heap.size → wpList Try.prog ops Q rest (a.put o.dst undef) W) : wpList Try.prog ops Q (o :: rest) a w :=
  wpList_store_arr hgd x y ho g f hx hy T f' hg (h _ hg.row (keeps_self w g _) (by simp))
theorem zero_arr (w : World) : (zeroValue AT).run Try.prog w = .ok (.agg (arr (fun _ => zc))) w := by kernel_rfl
theorem zero_book (w : World) : (zeroValue BT).run Try.prog w = .ok (.agg (arr (fun _ => zc))) w := by kernel_rfl
theorem size_P (w : World) : (sizeOf PT).run Try.prog w = .ok 4 w := by kernel_rfl
theorem agg_P (w : World) : (isAgg PT).run Try.prog w = .ok true w := by kernel_rfl
/-- A new variable that is such an array. -/
theorem wpList_alloc_arr {ops : Array Oper} {rest : List Oper} {o : Oper} {a : Act} {w : World} {Q : Exit → Act → World → Prop} (hgd : o.guard = none) (ho : o.op = .alloc AT)
    (h : wpList Try.prog ops Q rest (a.put o.dst (.pointer (some ⟨w.heap.size, 0, none⟩))) (w.alloc (.cells (arr (fun _ => zc)) AT))) : wpList Try.prog ops Q (o :: rest) a w := by
  refine wpList_plain hgd fun K hK => ?_
  unfold Oper.wp execOp
  simp only [ho, Instr.alloc, zero_arr, Sem.run_bind, Result.andThen_ok, Sem.run_pure, newVar, newRow, run_newObj_alloc, Value.cells]
  exact hK _ _ h
theorem wpList_alloc_book {ops : Array Oper} {rest : List Oper} {o : Oper} {a : Act} {w : World} {Q : Exit → Act → World → Prop} (hgd : o.guard = none) (ho : o.op = .alloc BT)
    (h : wpList Try.prog ops Q rest (a.put o.dst (.pointer (some ⟨w.heap.size, 0, none⟩))) (w.alloc (.cells (arr (fun _ => zc)) BT))) : wpList Try.prog ops Q (o :: rest) a w := by
  refine wpList_plain hgd fun K hK => ?_
  unfold Oper.wp execOp
  simp only [ho, Instr.alloc, zero_book, Sem.run_bind, Result.andThen_ok, Sem.run_pure, newVar, newRow, run_newObj_alloc, Value.cells]
  exact hK _ _ h
theorem wpList_box_arr {ops : Array Oper} {rest : List Oper} {o : Oper} {a : Act} {w : World} {Q : Exit → Act → World → Prop} (hgd : o.guard = none) (T : TypeId) (x : Operand) (ho : o.op = .box T x) (f : Nat → Cl) (hx : a.eval x = .agg (arr f))
    (h : wpList Try.prog ops Q rest (a.put o.dst (.pointer (some ⟨w.heap.size, 0, none⟩))) (w.alloc (.cells (arr f) T))) : wpList Try.prog ops Q (o :: rest) a w := by
  refine wpList_plain hgd fun K hK => ?_
  unfold Oper.wp execOp
  simp only [ho, Instr.box, Sem.run_bind, Result.andThen_ok, Sem.run_pure, newVar, newRow, run_newObj_alloc, Value.cells, hx]
  exact hK _ _ h
theorem wpList_build_book {ops : Array Oper} {rest : List Oper} {o : Oper} {a : Act} {w : World} {Q : Exit → Act → World → Prop} (hgd : o.guard = none) (ho : o.op = .build BT #[])
    (h : wpList Try.prog ops Q rest (a.put o.dst (.agg (arr (fun _ => zc)))) w) : wpList Try.prog ops Q (o :: rest) a w := by
  refine wpList_plain hgd fun K hK => ?_
  have hb : (Instr.build BT #[]).run Try.prog w = .ok (.agg (arr (fun _ => zc))) w := run_build w BT #[] _ (by kernel_rfl)
  unfold Oper.wp execOp
  simp only [ho, List.map_toArray, List.map_nil, Sem.run_bind, hb, Result.andThen_ok, Sem.run_pure]
  exact hK _ _ h
theorem wpList_index_arr {ops : Array Oper} {rest : List Oper} {o : Oper} {a : Act} {w : World} {Q : Exit → Act → World → Prop} (hgd : o.guard = none) (x y : Operand) (ho : o.op = .index AT x y) (f : Nat → Cl) (hx : a.eval x = .agg (arr f)) (k : Nat) (hy : a.eval y = .int .i64 k) (hk : k < 64)
    (h : wpList Try.prog ops Q rest (a.put o.dst (.agg #[.int .i64 (f k).s, .int .i64 (f k).n, .int .i64 (f k).x, .bool (f k).d])) w) : wpList Try.prog ops Q (o :: rest) a w := by
  refine wpList_plain hgd fun K hK => ?_
  have hu := run_underlying und_arr w
  have hr : (Instr.index AT (.agg (arr f)) (.int .i64 k)).run Try.prog w = .ok (.agg ((arr f).extract (k * 4) (k * 4 + 4))) w := by
    have hin : (0 : Int) ≤ (k : Int) ∧ (k : Int) < ((64 : Nat) : Int) := by omega
    unfold Instr.index part
    simp only [asIntOf, Sem.run_bind, Sem.run_pure, Result.andThen_ok, hu, if_pos hin, size_P, agg_P, Int.toNat_natCast, if_true]
  rw [arr_part f k hk] at hr
  unfold Oper.wp execOp
  simp only [ho, hx, hy, hr, Sem.run_bind, Result.andThen_ok, Sem.run_pure]
  exact hK _ _ h
end Go.Proofs.Ytilbohjkkdkdiaa
