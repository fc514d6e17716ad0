/- The document's own Keep of a queue of numbers; no condition but those that the row names. -/
import Derived.Test.YtdpchojfgcjbeaaFRef
import Derived.Deep.LoopGhost
namespace Go.Proofs.Ytdpchojfgcjbeaa
open Go.RowKit

/-- What stays: what a number divides. -/
def dv (a x : Int) : Bool := a != 0 && x.tmod a == 0
theorem filt_succ {a : Int} {l : List Int} {k : Nat} (hk : k < l.length) : (l.take (k + 1)).filter (dv a) = (l.take k).filter (dv a) ++ (if dv a l[k] then [l[k]] else []) := by
  rw [List.take_succ_eq_append_getElem hk, List.filter_append]
  simp only [List.filter_cons, List.filter_nil]

/-- Between two rounds. -/
structure KeepRel (w : World) (lim : Int) (v : Value) (l : List Int) (a : Int) (k : Nat) (u : Value) (wr : World) : Prop where
  le : k ≤ l.length
  own : wr.ownsRow (w.heap.size + 2) NT 1 u ((l.take k).filter (dv a)).length (ints ((l.take k).filter (dv a)))
  bel : Below (w.heap.size + 2) ((w.alloc (.cells #[.int .i64 lim, v] 30)).alloc (.cells #[.int .i64 0, .slice none 0 0] 30)) wr

theorem lst_one (w : World) (v : Value) (t : TypeId) : Lst (fun _ => False) (w.alloc (.cells #[v] t)) (.slice (some ⟨w.heap.size, 0, none⟩) 1 1) [v] :=
  ⟨_, _, rfl, by simp, fun j u hu => ⟨w.heap.size, 0, rfl, fun k => k, by
    match j, hu with
    | 0, hu => simp at hu; subst hu; simp⟩⟩

set_option maxHeartbeats 2000000 in
set_option maxRecDepth 100000 in
theorem rkeep_any (w : World) (lim : Int) (v : Value) (l : List Int) (h : Nums w v l) (h4 : l.length ≤ 4096) (a : Int) :
    Calls Try.prog 45 #[.agg #[.int .i64 lim, v], .int .i64 a] w (RPost w lim (l.filter (dv a)) [.int .i64 ((l.length : Int) - (l.filter (dv a)).length)]) := by
  obtain ⟨i0, hi, hz0, hz1, hz2⟩ := info_parts Try.infInt
  have hb0 : ∀ o o', Below w.heap.size w ((w.alloc o).alloc o') := fun o o' => ((Below.refl w.heap.size w).alloc (Nat.le_refl _) o).alloc (by simp) o'
  obtain ⟨p, cap, hv, _⟩ := own_small h
  have HH := Lib.hid h
  subst hv
  clear h
  go_enter Try.func45, Try.ntmps45
  go_wp2_with fail
  go_loopw [6, 7] (fun u i wr => ∃ (k : Nat) (q : Option Addr) (c m : Nat), i = .int .i64 k ∧ u = .slice q m c ∧ m ≤ 4096 ∧ Hid (KeepRel w lim (.slice p l.length cap) l a k (.slice q m c) wr)) (fun _ i _ => l.length - (intOf i).toNat)
  case atStart => exact ⟨0, none, 0, 0, rfl, rfl, by omega, Lib.hid ⟨Nat.zero_le _, World.ownsRow_nil _ _ _ _, Below.refl _ _⟩⟩
  case round =>
    obtain ⟨k, q, c, m, rfl, rfl, hm4, HR⟩ := hrel
    have hk := HR.out.le
    have hbw : Below w.heap.size w wr := (hb0 _ _).trans (HR.out.bel.mono (by omega))
    have HBW := Lib.hid hbw
    have y1 : w.heap.size + 1 < wr.heap.size := by have := HR.out.bel.size; simp at this; omega
    have y0 : w.heap.size < wr.heap.size := by omega
    have t0 : wr.cell? ⟨w.heap.size, 0, none⟩ = some (.int .i64 lim) := (HR.out.bel.cell (p := ⟨w.heap.size, 0, none⟩) (by simp)).trans (by simp)
    have t1 : wr.cell? ⟨w.heap.size, 1, none⟩ = some (.slice p l.length cap) := (HR.out.bel.cell (p := ⟨w.heap.size, 1, none⟩) (by simp)).trans (by simp)
    have z0 : (0 : Int) ≤ (k : Int) := by omega
    have em : ((l.take k).filter (dv a)).length = m := by
      rcases HR.out.own.2 with ⟨e, h0⟩ | ⟨g, cc, cur, e, _⟩
      · injection e with e1 e2 e3; omega
      · injection e with e1 e2 e3; omega
    have EM := Lib.hid em
    clear hbw em
    by_cases hlt : k < l.length
    · obtain ⟨g, cc, hv, _, hg⟩ := HH.out.form (by omega)
      cases hv
      have q1 : wr.cell? ⟨g, k, none⟩ = some (.int .i64 (l.getD k 0)) := (HBW.out.cell (p := ⟨g, k, none⟩) hg).trans ((HH.out.cellAt k (by omega)).trans (ints_at hlt))
      have hgw : g < wr.heap.size := Nat.lt_of_lt_of_le hg HBW.out.size
      obtain ⟨x, hx⟩ : ∃ x, l.getD k 0 = x := ⟨_, rfl⟩
      have hx' : l[k] = x := by rw [← hx]; simp [List.getD_eq_getElem?_getD, hlt]
      rw [hx] at q1
      have z1 : (k : Int) < (l.length : Int) := by omega
      have z2 : k + 1 ≤ 4096 := by omega
      have HX := Lib.hid hx'
      clear hx hx'
      by_cases ha : a = 0
      · have ha' : (a != 0) = false := by simp [ha]
        have hd : dv a x = false := by simp [dv, ha]
        have hf := filt_succ (a := a) hlt
        rw [HX.out, hd] at hf
        simp only [Bool.false_eq_true, if_false, List.append_nil] at hf
        have HN := Lib.hid (show KeepRel w lim (.slice (some ⟨g, 0, none⟩) l.length cap) l a (k + 1) (.slice q m c) wr from ⟨by omega, by rw [hf]; exact HR.out.own, HR.out.bel⟩)
        clear hd hf
        go_wp2_with fail
        go_roundw
        case rel => exact ⟨k + 1, q, c, m, by go_num, rfl, hm4, HN⟩
        case measure => simp [intOf]; omega
      · have ha' : (a != 0) = true := by simp [ha]
        cases hr : (x.tmod a == 0) with
        | false =>
          have hd : dv a x = false := by simp [dv, hr]
          have hf := filt_succ (a := a) hlt
          rw [HX.out, hd] at hf
          simp only [Bool.false_eq_true, if_false, List.append_nil] at hf
          have HN := Lib.hid (show KeepRel w lim (.slice (some ⟨g, 0, none⟩) l.length cap) l a (k + 1) (.slice q m c) wr from ⟨by omega, by rw [hf]; exact HR.out.own, HR.out.bel⟩)
          clear hd hf
          go_wp2_with fail
          go_roundw
          case rel => exact ⟨k + 1, q, c, m, by go_num, rfl, hm4, HN⟩
          case measure => simp [intOf]; omega
        | true =>
          have hd : dv a x = true := by simp [dv, ha', hr]
          have hf := filt_succ (a := a) hlt
          rw [HX.out, hd] at hf
          simp only [if_true] at hf
          have HFS := Lib.hid hf
          have hm5 : m + 1 ≤ 4096 := by
            have h1 := List.length_filter_le (dv a) (l.take k)
            rw [EM.out, List.length_take] at h1; omega
          have ho0 : wr.ownsRow (w.heap.size + 2) NT 1 (.slice q m c) m (ints ((l.take k).filter (dv a))) := by have := HR.out.own; rw [EM.out] at this; exact this
          have HO0 := Lib.hid ho0
          have HB0 := Lib.hid HR.out.bel
          have y2 : w.heap.size + 2 ≤ wr.heap.size := by omega
          clear hd hf ho0
          go_wp2_with (at_builtin; refine wpList_append_nums rfl _ _ rfl (w.heap.size + 2) (.slice q m c) m (ints ((l.take k).filter (dv a))) rfl (own_below HO0.out ((Below.refl _ _).alloc (Nat.le_refl _) _)) (.slice (some ⟨wr.heap.size, 0, none⟩) 1 1) [.int .i64 x] rfl (lst_one _ _ _) (fun y hy => by simp at hy; subst hy; rfl) (by show m + 1 ≤ 1000000; omega) (by simp; omega) ?_)
          intro q' c' w2 ho hg hat
          have HN := Lib.hid (show KeepRel w lim (.slice (some ⟨g, 0, none⟩) l.length cap) l a (k + 1) (.slice q' (m + 1) c') w2 from by
            refine ⟨by omega, ?_, ?_⟩
            · rw [HFS.out]
              have e1 : ((l.take k).filter (dv a) ++ [x]).length = m + 1 := by rw [List.length_append, EM.out]; rfl
              rw [e1, ← ints_snoc]
              exact ho
            · exact (HB0.out.alloc (by omega) _).grown hg (by simp; omega) (fun r e => (HO0.out.lt r e).1))
          clear ho hg hat
          go_wp2_with fail
          go_roundw
          case rel => exact ⟨k + 1, q', c', m + 1, by go_num, rfl, hm5, HN⟩
          case measure => simp [intOf]; omega
    · have hge : (l.length : Int) ≤ (k : Int) := by omega
      have hkl : k = l.length := by omega
      have hown := HR.out.own
      rw [hkl, List.take_length] at hown
      rw [hkl, List.take_length] at EM
      rw [EM.out] at hown
      have t2 : wr.heap[w.heap.size + 1]? = some (.cells #[.int .i64 0, .slice none 0 0] 30 (0, 0)) := (HR.out.bel.block _ (by omega)).trans (by simpa using heap_alloc_new (w.alloc (.cells #[.int .i64 lim, .slice p l.length cap] 30)) (.cells #[.int .i64 0, .slice none 0 0] 30))
      have r3 : wr.cell? ⟨w.heap.size + 1, 0, none⟩ = some (.int .i64 0) := (cell_of_row _ _ _ _ _ _ t2).trans rfl
      have r4 : wr.cell? ⟨w.heap.size + 1, 1, none⟩ = some (.slice none 0 0) := (cell_of_row _ _ _ _ _ _ t2).trans rfl
      have r5 := frozen_of_row wr _ 0 _ _ t2
      have r6 := frozen_of_row wr _ 1 _ _ t2
      have HOW := Lib.hid hown
      have hnb : (Value.slice q m c).ownBlock ≠ some (w.heap.size + 1) := fun e => by have := (hown.lt _ e).1; omega
      have HNB := Lib.hid hnb
      have HM := Lib.hid (show PushMem w lim (l.filter (dv a)) ((wr.drew.setCell ⟨w.heap.size + 1, 0, none⟩ (.int .i64 lim)).setCell ⟨w.heap.size + 1, 1, none⟩ (.slice q m c)) from by
        have e1 : (wr.drew.setCell ⟨w.heap.size + 1, 0, none⟩ (.int .i64 lim)).heap[w.heap.size + 1]? = some (.cells #[.int .i64 lim, .slice none 0 0] 30 (0, 0)) := by rw [heap_setCell_same _ _ _ _ _ _ (show wr.drew.heap[w.heap.size + 1]? = _ from t2)]; rfl
        have e2 : ((wr.drew.setCell ⟨w.heap.size + 1, 0, none⟩ (.int .i64 lim)).setCell ⟨w.heap.size + 1, 1, none⟩ (.slice q m c)).heap[w.heap.size + 1]? = some (.cells #[.int .i64 lim, .slice q m c] 30 (0, 0)) := by rw [heap_setCell_same _ _ _ _ _ _ e1]; rfl
        unfold PushMem
        simp only [Nums, EM.out]
        refine ⟨q, c, (cell_of_row _ _ _ _ _ _ e2).trans rfl, (cell_of_row _ _ _ _ _ _ e2).trans rfl, ?_, ?_⟩
        · have := ownsRow_setCell_other (ownsRow_setCell_other (own_below hown (below_drewN (Below.refl _ _) 1)) (a := ⟨w.heap.size + 1, 0, none⟩) hnb (.int .i64 lim)) (a := ⟨w.heap.size + 1, 1, none⟩) hnb (.slice q m c)
          exact own_base this (Nat.zero_le _)
        · exact ((HBW.out.trans (below_drewN (Below.refl w.heap.size wr) 1)).setCell (p := ⟨w.heap.size + 1, 0, none⟩) (by simp) _).setCell (p := ⟨w.heap.size + 1, 1, none⟩) (by simp) _)
      clear hown hnb t2 hkl
      go_upto_region 7 with fail
      go_cut [5] (fun u wx => u = .int .i64 ((l.length : Int) - m) ∧ Hid (PushMem w lim (l.filter (dv a)) wx))
      case first =>
        go_region_law (fail)
        all_goals go_wp2_with fail
        all_goals
          go_meet
          exact ⟨congrArg _ (IntWalk.i64_in _ (by omega)), HM⟩
      case rest =>
        obtain ⟨rfl, hcut⟩ := hcut
        obtain ⟨p3, c3, r0, r1, ho3, hb3⟩ := hcut.out
        have r2 := cell_lt r0
        go_wp2_with fail
        refine bodyPost_ret (v := .tuple #[.agg #[.int .i64 lim, .slice p3 (l.filter (dv a)).length c3], .int .i64 ((l.length : Int) - m)]) ?r1 rfl ?_
        case r1 => simp [results, Try.results45, go_sem, r0, r1]
        exact ⟨_, by rw [EM.out]; rfl, ho3, hb3⟩
end Go.Proofs.Ytdpchojfgcjbeaa
