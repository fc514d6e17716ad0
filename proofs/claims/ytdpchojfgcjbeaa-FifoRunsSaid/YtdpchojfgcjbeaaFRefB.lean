/- The document's own Put of a queue of numbers, where there is such an element; no condition but those that each row names. -/
import Derived.Test.YtdpchojfgcjbeaaFRef
import Derived.Test.YtdpchojfgcjbeaaFRow
namespace Go.Proofs.Ytdpchojfgcjbeaa
open Go.RowKit

theorem ints_set (l : List Int) (i : Nat) (v : Int) : (ints l).set i (.int .i64 v) = ints (l.set i v) := by unfold ints; rw [List.map_set]

set_option maxHeartbeats 1000000 in
set_option maxRecDepth 100000 in
theorem rput_yes (w : World) (lim : Int) (v : Value) (l : List Int) (h : Nums w v l) (i : Nat) (hi : i < l.length) (h4 : l.length ≤ 4096) (x : Int) :
    Calls Try.prog 44 #[.agg #[.int .i64 lim, v], .int .i64 i, .int .i64 x] w (RPost w lim (l.set i x) [.int .i64 0]) := by
  have hb0 : ∀ o o', Below w.heap.size w ((w.alloc o).alloc o') := fun o o' => ((Below.refl w.heap.size w).alloc (Nat.le_refl _) o).alloc (by simp) o'
  have HT := Lib.hid (fun o o' => rat_yes _ lim v l (own_below h (hb0 o o')) i hi l[i] rfl)
  obtain ⟨p, cap, rfl, _⟩ := own_small h
  have HL := Lib.hid (fun w1 (hb : Below w.heap.size w w1) => Lst.of_own (S := fun _ => False) (own_below h hb) (ints_len l) (by omega) (fun _ _ _ k => k))
  have EL := Lib.hid (ints_len l)
  have z0 : (0 : Int) ≤ (i : Int) := by omega
  have z1 : (i : Int) < (l.length : Int) := by omega
  have hx : (ints l)[i]? = some (.int .i64 (l.getD i 0)) := ints_at hi
  have HX := Lib.hid hx
  clear h hx
  go_enter Try.func44, Try.ntmps44
  go_wp2_with fail
  refine (HT.out _ _).mono ?_
  rintro e w1 ⟨rfl, hb1⟩
  have hbw : Below w.heap.size w w1 := (hb0 _ _).trans (hb1.mono (by simp; omega))
  have HBW := Lib.hid hbw
  have y1 : w.heap.size + 1 < w1.heap.size := by have := hb1.size; simp at this; omega
  have y0 : w.heap.size < w1.heap.size := by omega
  obtain ⟨hc1, hf1⟩ := bcell hb1
  have t0 : w1.cell? ⟨w.heap.size, 0, none⟩ = some (.int .i64 lim) := (hc1 _ _ (by simp; omega)).trans (by simp)
  have t1 : w1.cell? ⟨w.heap.size, 1, none⟩ = some (.slice p l.length cap) := (hc1 _ _ (by simp; omega)).trans (by simp)
  have t2 : w1.heap[w.heap.size + 1]? = some (.cells #[.int .i64 0, .slice none 0 0] 30 (0, 0)) := (hb1.block _ (by simp)).trans (by simpa using heap_alloc_new (w.alloc (.cells #[.int .i64 lim, .slice p l.length cap] 30)) (.cells #[.int .i64 0, .slice none 0 0] 30))
  have T2 := Lib.hid t2
  clear hb1 hbw hc1 hf1 t2
  go_wp2_with (at_builtin; refine wpList_append_nums rfl _ _ rfl w1.heap.size (.slice none 0 0) 0 [] rfl (World.ownsRow_nil _ _ _ _) _ (ints l) rfl (HL.out _ HBW.out) ints_one (by rw [EL.out]; omega) (Nat.le_refl _) ?_)
  rw [EL.out]
  intro p2 c2 w2 ho2 hg2 ha2
  have hb2 : Below w1.heap.size w1 w2 := (Below.refl _ _).grown hg2 (Nat.le_refl _) (fun k e => by simp [Value.ownBlock] at e)
  obtain ⟨g, _, hv, hg, hglt⟩ := ho2.form (by omega)
  cases hv
  have q1 := (ho2.cellAt i (by omega)).trans HX.out
  have q2 := ho2.frozenAt i
  have hc2 : ∀ b o, b < w1.heap.size → w2.cell? ⟨b, o, none⟩ = w1.cell? ⟨b, o, none⟩ := fun b o h => hb2.cell (p := ⟨b, o, none⟩) h
  have k0 : w2.cell? ⟨w.heap.size, 0, none⟩ = some (.int .i64 lim) := (hc2 _ _ y0).trans t0
  have k2 : w2.heap[w.heap.size + 1]? = some (.cells #[.int .i64 0, .slice none 0 0] 30 (0, 0)) := (hb2.block _ y1).trans T2.out
  have k3 : w2.cell? ⟨w.heap.size + 1, 0, none⟩ = some (.int .i64 0) := (cell_of_row _ _ _ _ _ _ k2).trans rfl
  have k4 : w2.cell? ⟨w.heap.size + 1, 1, none⟩ = some (.slice none 0 0) := (cell_of_row _ _ _ _ _ _ k2).trans rfl
  have k5 := frozen_of_row w2 _ 0 _ _ k2
  have k6 := frozen_of_row w2 _ 1 _ _ k2
  have n0 : ¬ g = w.heap.size := by omega
  have n1 : ¬ g = w.heap.size + 1 := by omega
  have m0 : ¬ w.heap.size = g := by omega
  have m1 : ¬ w.heap.size + 1 = g := by omega
  have y2 : w.heap.size + 1 < w2.heap.size := lt_of_block k2
  have y3 : w.heap.size < w2.heap.size := by omega
  have HO := Lib.hid ho2
  have HB2 := Lib.hid hb2
  clear ho2 hg2 ha2 hc2 hb2 k2
  go_wp2_with fail
  refine bodyPost_ret (v := .tuple #[.agg #[.int .i64 lim, .slice (some ⟨g, 0, none⟩) l.length c2], .int .i64 0]) ?r1 rfl ?_
  case r1 => simp [results, Try.results44, go_sem, k3, k4]
  have hst := (HO.out.stored i (.int .i64 x)).1
  rw [ints_set] at hst
  have hbb := ((bnext HBW.out HB2.out).setCell (p := ⟨g, i, none⟩) (by simp; omega) (.int .i64 x)).setCell (p := ⟨w.heap.size + 1, 0, none⟩) (by simp) (.int .i64 lim) |>.setCell (p := ⟨w.heap.size + 1, 1, none⟩) (by simp) (.slice (some ⟨g, 0, none⟩) l.length c2)
  refine ⟨_, rfl, ?_, hbb⟩
  have := ownsRow_setCell_other (ownsRow_setCell_other hst (a := ⟨w.heap.size + 1, 0, none⟩) (by simpa [Value.ownBlock] using n1) (.int .i64 lim)) (a := ⟨w.heap.size + 1, 1, none⟩) (by simpa [Value.ownBlock] using n1) (.slice (some ⟨g, 0, none⟩) l.length c2)
  have hlen : (l.set i x).length = l.length := by simp
  simp only [Nums, hlen]
  exact own_base this (Nat.zero_le _)

end Go.Proofs.Ytdpchojfgcjbeaa
