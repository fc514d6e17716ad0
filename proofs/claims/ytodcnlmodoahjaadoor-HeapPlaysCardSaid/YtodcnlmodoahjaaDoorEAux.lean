/- The law's own first, ids and same; no condition but those that each row names. -/
import Derived.Test.YtodcnlmodoahjaaDoorERefC
import Derived.Test.YtodcnlmodoahjaaDoorENum
namespace Go.Proofs.YtodcnlmodoahjaaDoor
open Go.RowKit Hp

theorem first_none (w : World) (v : Value) (h : Its w v []) :
    Calls Tryd.prog 13 #[v] w fun e w' => e = .returned (.tuple #[.int .i64 0, .int .i64 0, .bool false]) ∧ Below w.heap.size w w' := by
  obtain ⟨p, cap, rfl, _⟩ := own_small h
  have hb := Below.refl w.heap.size w
  clear h
  go_enter Tryd.func13, Tryd.ntmps13
  go_wp2
  go_ret3
  exact ⟨rfl, hb⟩
set_option maxHeartbeats 400000 in
theorem first_some (w : World) (v : Value) (x : Int × Int) (r : List (Int × Int)) (h : Its w v (x :: r)) (h4 : r.length ≤ 4096) :
    Calls Tryd.prog 13 #[v] w fun e w' => e = .returned (.tuple #[.int .i64 x.1, .int .i64 x.2, .bool true]) ∧ Below w.heap.size w w' := by
  obtain ⟨g, cap, rfl, _, _⟩ := h.form (by simp)
  obtain ⟨c0, c1⟩ := h.cells 0 (by simp)
  have c0' : w.cell? ⟨g, 0, none⟩ = some (.int .i64 x.1) := by simpa using c0
  have c1' : w.cell? ⟨g, 1, none⟩ = some (.int .i64 x.2) := by simpa using c1
  obtain ⟨n, hn⟩ : ∃ n, n = (x :: r).length := ⟨_, rfl⟩
  rw [← hn]
  have hn0 : (0 : Int) < (n : Int) := by simp at hn; omega
  have z : ((n : Int) == 0) = false := by simp; omega
  clear h c0 c1 hn
  go_enter Tryd.func13, Tryd.ntmps13
  go_wp2_with fail
  go_quiet (fail)
  go_wp2_with fail
  go_ret3
  exact ⟨rfl, below_drewN (Below.refl _ _) _⟩
set_option maxHeartbeats 2000000 in
set_option maxRecDepth 100000 in
theorem ids_any (w : World) (v : Value) (L : List (Int × Int)) (h : Its w v L) (h4 : L.length ≤ 4096) :
    Calls Tryd.prog 20 #[v] w fun e w' => ∃ v', e = .returned v' ∧ w'.ownsRow w.heap.size 3 1 v' L.length (ints (L.map (·.1))) ∧ Below w.heap.size w w' := by
  obtain ⟨i0, hi, hz0, hz1, hz2⟩ := info_parts Tryd.infInt
  obtain ⟨p, cap, rfl, _⟩ := own_small h
  have HC := Lib.hid (show ∀ w1, Below w.heap.size w w1 → ∀ j (hj : j < L.length), ∃ g, p = some ⟨g, 0, none⟩ ∧ w1.cell? ⟨g, j * 2, none⟩ = some (.int .i64 L[j].1) from fun w1 hb j hj => by
    obtain ⟨g, cap', e, _, _⟩ := h.form (by omega)
    injection e with e _ _
    subst e
    exact ⟨g, rfl, ((h.below hb).cells j hj).1⟩)
  have HO0 := Lib.hid (show w.ownsRow w.heap.size 3 1 (.slice none 0 0) 0 (ints ((L.map (·.1)).take 0)) from World.ownsRow_nil _ _ _ _)
  clear h
  go_enter Tryd.func20, Tryd.ntmps20
  go_wp2_with fail
  go_loopw [3, 4] (fun xv iv wr => ∃ (k : Nat), iv = .int .i64 k ∧ k ≤ L.length ∧ Hid (wr.ownsRow w.heap.size 3 1 xv k (ints ((L.map (·.1)).take k))) ∧ Hid (Below w.heap.size w wr)) (fun _ iv _ => L.length - (intOf iv).toNat)
  case atStart => exact ⟨0, rfl, Nat.zero_le _, HO0, Lib.hid (Below.refl _ _)⟩
  case round =>
    obtain ⟨k, rfl, hk, HO, HB⟩ := hrel
    clear HO0
    by_cases hlt : k < L.length
    · have hlt' : (k : Int) < (L.length : Int) := by omega
      obtain ⟨g, rfl, c0⟩ := HC.out wr HB.out k hlt
      have HT := Lib.hid (show ints ((L.map (·.1)).take (k + 1)) = ints ((L.map (·.1)).take k) ++ [.int .i64 L[k].1] from by
        rw [List.take_succ_eq_append_getElem (by simpa using hlt)]; simp [ints])
      have hws := HB.out.size
      generalize L[k].1 = y at c0 HT
      go_wp2_with (at_builtin; refine wpList_append_own _ rfl _ _ 44 rfl w.heap.size 3 i0 (.int .i64 0) 1 8 Tryd.underlying44 hi hz0 hz1 hz2 rfl (by decide) _ k _ rfl (HO.out.kept (World.grownBy_alloc _ _ none) (Classical.em _)) ⟨wr.heap.size, 0, none⟩ 1 1 [.int .i64 y] rfl rfl (World.news_of_block (heap_alloc_new _ _)) (by simp [Value.oneCell']) (by unfold maxLen; omega) (by omega) (by simp; omega) ?_)
      intro v' w2 hown hgrow _
      have HO2 := Lib.hid hown
      have HB2 := Lib.hid (show Below w.heap.size w w2 from (HB.out.alloc hws _).grown hgrow (by simp; omega) (fun g e => (HO.out.lt g e).1))
      clear hown hgrow
      go_wp2_with fail
      go_roundw
      case rel => exact ⟨k + 1, by go_num, by omega, Lib.hid (by rw [HT.out]; exact HO2.out), HB2⟩
      case measure => simp [intOf]; omega
    · have hg3 : decide (k < L.length) = false := decide_eq_false hlt
      obtain rfl : k = L.length := by omega
      have HE := Lib.hid HO.out
      clear hlt
      go_wp2_with fail
      go_ret
      refine ⟨_, rfl, ?_, HB.out⟩
      have := HO.out
      rwa [List.take_of_length_le (by simp)] at this
set_option maxHeartbeats 1000000 in
theorem same_yes (w : World) (u v : Value) (l : List Int) (hu : Lst (fun _ => False) w u (ints l)) (hv : Lst (fun _ => False) w v (ints l)) (h4 : l.length ≤ 4096) :
    Calls Tryd.prog 18 #[u, v] w fun e w' => e = .returned (.bool true) ∧ Below w.heap.size w w' := by
  obtain ⟨p, cp, rfl, _, hp⟩ := hu
  obtain ⟨q, cq, rfl, _, hq⟩ := hv
  rw [ints_len]
  have HP := Lib.hid (show ∀ w1, Below w.heap.size w w1 → ∀ k (h : k < l.length), ∃ b off, p = some ⟨b, off, none⟩ ∧ w1.cell? ⟨b, off + k, none⟩ = some (.int .i64 l[k]) from fun w1 hb k h => by
    obtain ⟨b, off, e, _, hc⟩ := hp k (.int .i64 l[k]) (by simp [ints, h])
    exact ⟨b, off, e, (hb.cell (p := ⟨b, off + k, none⟩) (cell_lt hc)).trans hc⟩)
  have HQ := Lib.hid (show ∀ w1, Below w.heap.size w w1 → ∀ k (h : k < l.length), ∃ b off, q = some ⟨b, off, none⟩ ∧ w1.cell? ⟨b, off + k, none⟩ = some (.int .i64 l[k]) from fun w1 hb k h => by
    obtain ⟨b, off, e, _, hc⟩ := hq k (.int .i64 l[k]) (by simp [ints, h])
    exact ⟨b, off, e, (hb.cell (p := ⟨b, off + k, none⟩) (cell_lt hc)).trans hc⟩)
  clear hp hq
  go_enter Tryd.func18, Tryd.ntmps18
  go_wp2_with fail
  go_loopw [5] (fun iv wr => ∃ (k : Nat), iv = .int .i64 k ∧ k ≤ l.length ∧ Hid (Below w.heap.size w wr)) (fun iv _ => l.length - (intOf iv).toNat)
  case atStart => exact ⟨0, rfl, Nat.zero_le _, Lib.hid (Below.refl _ _)⟩
  case round =>
    obtain ⟨k, rfl, hk, HB⟩ := hrel
    by_cases hlt : k < l.length
    · have hlt' : (k : Int) < (l.length : Int) := by omega
      obtain ⟨b1, o1, rfl, c1⟩ := HP.out wr HB.out k hlt
      obtain ⟨b2, o2, rfl, c2⟩ := HQ.out wr HB.out k hlt
      generalize l[k] = y at c1 c2
      go_wp2_with fail
      go_quiet (fail)
      have HB2 := Lib.hid (show Below w.heap.size w (wr.drewN nq) from below_drewN HB.out _)
      go_wp2_with fail
      go_roundw
      case rel => exact ⟨k + 1, by go_num, by omega, HB2⟩
      case measure => simp [intOf]; omega
    · have hg3 : decide (k < l.length) = false := decide_eq_false hlt
      clear hlt
      go_wp2_with fail
      go_ret
      exact ⟨rfl, HB.out⟩
end Go.Proofs.YtodcnlmodoahjaaDoor
