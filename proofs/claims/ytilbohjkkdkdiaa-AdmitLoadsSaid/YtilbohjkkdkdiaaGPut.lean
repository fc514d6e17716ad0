/- The program's put: a claim in the place of what stands at its slot, if the whole is enough; no condition but those that each row names. -/
import Derived.Test.YtilbohjkkdkdiaaGSum
import Derived.Test.YtilbohjkkdkdiaaGOf
import Derived.Deep.CutBlock
import Derived.Deep.CutRange
import Derived.Deep.DeepCutAuto
namespace Go.Proofs.Ytilbohjkkdkdiaa
open Go.RowKit

/-- What a call that may turn the book answers. -/
def Turns (b : Nat) (f' : Nat → Cl) (r : Value) (w : World) (e : Ending) (w' : World) : Prop := e = .returned r ∧ BK BT w' b f' ∧ Keeps (fun x => x = b) w w'
/-- The copy with the claim in it. -/
theorem put_copy {w : World} {f : Nat → Cl} {k : Nat} {c : Cl} {W : World} {g : Nat} (h : BK AT W g f) (hk : Keeps (fun _ => False) w W) (hg : w.heap.size ≤ g) :
    BK AT ((((W.setCell ⟨g, k * 4, none⟩ (.int .i64 c.s)).setCell ⟨g, k * 4 + 1, none⟩ (.int .i64 c.n)).setCell ⟨g, k * 4 + 2, none⟩ (.int .i64 c.x)).setCell ⟨g, k * 4 + 3, none⟩ (.bool c.d)) g (upd f k c) ∧
    Keeps (fun _ => False) w ((((W.setCell ⟨g, k * 4, none⟩ (.int .i64 c.s)).setCell ⟨g, k * 4 + 1, none⟩ (.int .i64 c.n)).setCell ⟨g, k * 4 + 2, none⟩ (.int .i64 c.x)).setCell ⟨g, k * 4 + 3, none⟩ (.bool c.d)) :=
  ⟨h.set k c, (((hk.setCell _ _ (.inr hg)).setCell _ _ (.inr hg)).setCell _ _ (.inr hg)).setCell _ _ (.inr hg)⟩

theorem heap_alloc_keep (w : World) (o o' : Obj) (b : Nat) (h : b < w.heap.size) : ((w.alloc o).alloc o').heap[b]? = w.heap[b]? :=
  (Below.heap_alloc _ _ _ (by simp; omega)).trans (Below.heap_alloc _ _ _ h)
set_option maxHeartbeats 2000000 in
theorem put_any (b : Nat) (f : Nat → Cl) (k : Nat) (n x : Int) (d : Bool) (w : World) (hk : k < 64) (hb : BK BT w b f) (hS : Small f) (h0 : 0 ≤ cnt ⟨k, n, x, d⟩) (h1 : cnt ⟨k, n, x, d⟩ ≤ 1048576) (r : Int) (f' : Nat → Cl)
    (hr : (sumTo f 64 - cnt (f k) + cnt ⟨k, n, x, d⟩ ≤ 1048576 ∧ r = 0 ∧ f' = upd f k ⟨k, n, x, d⟩) ∨ (1048576 < sumTo f 64 - cnt (f k) + cnt ⟨k, n, x, d⟩ ∧ r = 80 ∧ f' = f)) :
    Calls Try.prog 41 #[.pointer (some ⟨b, 0, none⟩), .agg #[.int .i64 k, .int .i64 n, .int .i64 x, .bool d]] w (Turns b f' (errV r) w) := by
  have HB0 := Lib.hid hb
  have HB := Lib.hid (hb.alloc (.cells #[.int .i64 k, .int .i64 n, .int .i64 x, .bool d] 35))
  have HS := Lib.hid fun w => sum_any (upd f k ⟨k, n, x, d⟩) w (hS.upd k _ h0 h1)
  have HR := Lib.hid hr
  have HU := Lib.hid (sumTo_upd f k ⟨k, n, x, d⟩ 64 hk)
  have HL := Lib.hid hb.lt
  generalize sumTo (upd f k ⟨k, n, x, d⟩) 64 = s2 at HS HU
  have hlt := hb.lt
  have hk' : (k : Int) < 64 := by omega
  have HN := Lib.hid (BK.new AT (w.alloc (.cells #[.int .i64 k, .int .i64 n, .int .i64 x, .bool d] 35)) (fun _ => zc))
  have HP := Lib.hid (heap_alloc2_old w (.cells #[.int .i64 k, .int .i64 n, .int .i64 x, .bool d] 35) (.cells (arr (fun _ => zc)) AT))
  have HK0 := Lib.hid (show Keeps (fun _ => False) w ((w.alloc (.cells #[.int .i64 k, .int .i64 n, .int .i64 x, .bool d] 35)).alloc (.cells (arr (fun _ => zc)) AT)) from Keeps.of_below (((Below.refl _ _).alloc (Nat.le_refl _) _).alloc (by simp) _))
  clear hb hS h0 h1 hr
  go_enter Try.func41, Try.ntmps41
  go_upto_region 2 with (first | (refine wpList_load_arr rfl _ rfl b rfl BT f HB.out ?_) | (refine wpList_alloc_arr rfl rfl ?_) | (refine wpList_store_arrG rfl _ _ rfl (w.heap.size + 1) f (by first | rfl | simp [Act.eval, Act.put]) rfl AT (fun _ => zc) (by first | exact HN.out | simpa using HN.out) ?_; intro W hW hKW hsW))
  have hq := (hKW.block w.heap.size (by simp <;> omega) (by omega)).trans HP.out
  have q0 : W.cell? ⟨w.heap.size, 0, none⟩ = some (.int .i64 k) := (cell_of_row _ _ _ _ _ _ hq).trans rfl
  have q1 : W.cell? ⟨w.heap.size, 1, none⟩ = some (.int .i64 n) := (cell_of_row _ _ _ _ _ _ hq).trans rfl
  have q2 : W.cell? ⟨w.heap.size, 2, none⟩ = some (.int .i64 x) := (cell_of_row _ _ _ _ _ _ hq).trans rfl
  have q3 : W.cell? ⟨w.heap.size, 3, none⟩ = some (.bool d) := (cell_of_row _ _ _ _ _ _ hq).trans rfl
  obtain ⟨r0, r1, r2, r3⟩ := hW.cells k hk
  have f0 := hW.free (k * 4)
  have f1 := hW.free (k * 4 + 1)
  have f2 := hW.free (k * 4 + 2)
  have f3 := hW.free (k * 4 + 3)
  have hKW' : Keeps (fun _ => False) w W := ⟨hKW.os.trans HK0.out.os, hKW.tape.trans HK0.out.tape, hKW.output.trans HK0.out.output, Nat.le_trans HK0.out.size hKW.size, fun b hb _ => (hKW.block b (Nat.lt_of_lt_of_le hb HK0.out.size) (by omega)).trans (HK0.out.block b hb (fun e => e))⟩
  have hBW : BK BT W b f := ((hKW.block b (by have := HL.out; simp <;> omega) (by omega)).trans (Go.Proofs.Ytilbohjkkdkdiaa.heap_alloc_keep w _ _ b HL.out)).trans HB0.out
  obtain ⟨hA, hKA⟩ := put_copy (c := ⟨k, n, x, d⟩) hW hKW' (k := k) (by omega)
  simp only at hA hKA
  have HA := Lib.hid hA
  have HKA := Lib.hid hKA
  have HBA := Lib.hid ((((hBW.other ⟨w.heap.size + 1, k * 4, none⟩ (.int .i64 k) (by simp; omega)).other ⟨w.heap.size + 1, k * 4 + 1, none⟩ (.int .i64 n) (by simp; omega)).other ⟨w.heap.size + 1, k * 4 + 2, none⟩ (.int .i64 x) (by simp; omega)).other ⟨w.heap.size + 1, k * 4 + 3, none⟩ (.bool d) (by simp; omega))
  have hz : w.heap.size + 1 < W.heap.size := by rw [hsW]; simp <;> omega
  clear hq hA hKA hW hKW hKW' hBW hsW
  go_upto_region 3 with fail
  clear q0 q1 q2 q3 r0 r1 r2 r3 f0 f1 f2 f3
  generalize (((W.setCell ⟨w.heap.size + 1, k * 4, none⟩ (.int .i64 k)).setCell ⟨w.heap.size + 1, k * 4 + 1, none⟩ (.int .i64 n)).setCell ⟨w.heap.size + 1, k * 4 + 2, none⟩ (.int .i64 x)).setCell ⟨w.heap.size + 1, k * 4 + 3, none⟩ (.bool d) = W1 at *
  go_wp2_with (refine wpList_load_arr rfl _ rfl (w.heap.size + 1) rfl AT _ HA.out ?_)
  refine (HS.out _).mono ?_
  rintro e w2 ⟨rfl, hb2⟩
  have hA2 := HA.out.below hb2
  have hB2 := HBA.out.below hb2
  have hK2 : Keeps (fun x => x = b) w w2 := (HKA.out.mono (fun _ e => e.elim)).trans (Keeps.of_below hb2)
  have HA2 := Lib.hid hA2
  have HB2 := Lib.hid hB2
  have HK2 := Lib.hid hK2
  clear hb2 HA HKA HBA hA2 hB2 hK2
  rcases HR.out with ⟨h, rfl, rfl⟩ | ⟨h, rfl, rfl⟩
  · have hle : s2 ≤ 1048576 := by rw [HU.out]; exact h
    clear h
    go_wp2_with (first | (refine wpList_load_arr rfl _ rfl (w.heap.size + 1) rfl AT _ HA2.out ?_) | (refine wpList_store_arrG rfl _ _ rfl b _ rfl rfl BT f HB2.out ?_; intro W3 hW3 hKW3 hsW3; have HE := Lib.hid (show Turns b (upd f k ⟨k, n, x, d⟩) (errV 0) w (.returned .nilIface) W3 from ⟨rfl, hW3, HK2.out.trans hKW3⟩); clear hW3 hKW3 hsW3))
    go_ret
    exact HE.out
  · have hle : 1048576 < s2 := by rw [HU.out]; exact h
    clear h
    go_wp2_with fail
    go_ret
    exact ⟨rfl, HB2.out, HK2.out⟩
end Go.Proofs.Ytilbohjkkdkdiaa
