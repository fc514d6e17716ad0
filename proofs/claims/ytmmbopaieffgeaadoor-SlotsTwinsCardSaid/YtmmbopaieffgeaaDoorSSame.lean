/- The law's own handles and sameSlots: true where both tables are the same; no condition but those that each row names. -/
import Derived.Test.YtmmbopaieffgeaaDoorSAllR
import Derived.Test.YtmmbopaieffgeaaDoorSNum
namespace Go.Proofs.YtmmbopaieffgeaaDoor
open Go.RowKit

set_option maxHeartbeats 1000000 in
set_option maxRecDepth 100000 in
theorem handles_same (S T : Nat → Prop) (l : List Int) (a b : Value) (w : World) (ha : Lst S w a (ints l)) (hb : Lst T w b (ints l)) :
    Calls Tryd.prog 28 #[a, b] w fun e w' => e = .returned (.bool true) ∧ Below w.heap.size w w' := by
  obtain ⟨p, cp, rfl, hm, hg⟩ := ha
  obtain ⟨q, cq, rfl, _, ht⟩ := hb
  have e1 := ints_len l
  rw [e1] at hm ⊢
  have HG := Lib.hid hg
  have HT := Lib.hid ht
  clear hg ht e1
  go_enter Tryd.func28, Tryd.ntmps28
  go_wp2_with fail
  go_loopw [5] (fun i wr => ∃ k : Nat, k ≤ l.length ∧ i = .int .i64 k ∧ Below w.heap.size w wr) (fun i _ => l.length - (intOf i).toNat)
  case atStart => exact ⟨0, Nat.zero_le _, rfl, Below.refl _ _⟩
  case round =>
    obtain ⟨k, hk, rfl, hbw⟩ := hrel
    by_cases hlt : k < l.length
    · obtain ⟨b1, o1, rfl, _, hd1⟩ := HG.out k _ (ints_at hlt)
      obtain ⟨b2, o2, rfl, _, hd2⟩ := HT.out k _ (ints_at hlt)
      have hc1 : wr.cell? ⟨b1, o1 + k, none⟩ = _ := (hbw.cell (p := ⟨b1, o1 + k, none⟩) (cell_lt hd1)).trans hd1
      have hc2 : wr.cell? ⟨b2, o2 + k, none⟩ = _ := (hbw.cell (p := ⟨b2, o2 + k, none⟩) (cell_lt hd2)).trans hd2
      clear hd1 hd2
      have z0 : (0 : Int) ≤ (k : Int) := by omega
      have z1 : (k : Int) < (l.length : Int) := by omega
      generalize l.getD k 0 = g at *
      go_wp2_with fail
      go_quiet (fail)
      go_wp2_with fail
      go_roundw
      case rel => exact ⟨k + 1, by omega, by go_num, below_drewN hbw _⟩
      case measure => simp [intOf]; omega
    · go_wp2_with fail
      go_ret
      exact ⟨rfl, hbw⟩

theorem allPost_shape {S : Nat → Prop} {w w' : World} {A : Tab} {e : Ending} (h : AllPost S w A e w') : ∃ p cap, e = .returned (.slice p A.idxs.length cap) ∧ Lst S w' (.slice p A.idxs.length cap) (ints A.all) ∧ Below w.heap.size w w' := by
  obtain ⟨v, rfl, hl, hb⟩ := h
  have hl' := hl
  obtain ⟨p, cap, rfl, _, _⟩ := hl
  have e1 : (ints A.all).length = A.idxs.length := by rw [ints_len, all_len]
  rw [e1] at hl' ⊢
  exact ⟨p, cap, rfl, hl', hb⟩

set_option maxHeartbeats 4000000 in
set_option maxRecDepth 100000 in
theorem same_slots (S T : Nat → Prop) (B : Nat) (A : Tab) (hA : A.Good) (v gs ts ls : Value) (w : World) (h : PTab T B w A v) (hr : RT S w A gs ts ls) (hS : ∀ x, S x → x < w.heap.size) :
    Calls Tryd.prog 11 #[v, rv A.kind gs ts ls] w fun e w' => e = .returned (.bool true) ∧ Below w.heap.size w w' := by
  have HPS := Lib.hid (fun W (hb : Below w.heap.size w W) => pslots S T B A hA W v (h.below hb) (fun x k => Nat.lt_of_lt_of_le (hS x k) hb.size))
  have HPA := Lib.hid (fun W (hb : Below w.heap.size w W) => pall S T B A hA W v (h.below hb) (fun x k => Nat.lt_of_lt_of_le (hS x k) hb.size))
  have HRA := Lib.hid (fun W (hb : Below w.heap.size w W) => rall_any S A hA gs ts ls W (hr.below hb) (fun x k => Nat.lt_of_lt_of_le (hS x k) hb.size))
  have HPL := Lib.hid (fun W (hb : Below w.heap.size w W) => plen T B A hA W v (h.below hb))
  have HRT := Lib.hid (fun W (hb : Below w.heap.size w W) => hr.below hb)
  have n4 := hA.n4
  have hlt := hA.lt
  have n1 := hA.n1
  obtain ⟨b, _, _, _, _, _, _, rfl, _, _⟩ := h
  obtain ⟨p, cp, q, cq, r, cr, rfl, rfl, rfl⟩ := hr.shapes
  rw [hlt] at HRA HRT ⊢
  have HLT := Lib.hid hlt
  clear hr hA hlt hS
  go_enter Tryd.func11, Tryd.ntmps11
  go_wp2_with fail
  refine (HPS.out _ (below_alloc (Below.refl _ _) _)).mono ?_
  rintro e w1 ⟨gv, tv, rfl, hg, ht, hb⟩
  have HG := Lib.hid hg
  have HT := Lib.hid ht
  obtain ⟨pg, cg, rfl, hmg, hgc⟩ := hg
  obtain ⟨pt, ct, rfl, _, htc⟩ := ht
  have e1 := ints_len A.gens
  have e2 := bools_len A.taken
  rw [e1] at hmg HG ⊢
  rw [e2, HLT.out] at HT ⊢
  have HGC := Lib.hid hgc
  have HTC := Lib.hid htc
  clear hgc htc e1 e2
  have hbw1 : Below w.heap.size w w1 := ((Below.refl w.heap.size w).alloc (Nat.le_refl _) _).trans (hb.mono (by simp))
  have HX := Lib.hid (show ∀ W, Below w1.heap.size w1 W → (W.cell? ⟨w.heap.size, 0, none⟩ = some (.int .i64 A.kind) ∧ W.cell? ⟨w.heap.size, 1, none⟩ = some (.slice p A.gens.length cp) ∧ W.cell? ⟨w.heap.size, 2, none⟩ = some (.slice q A.gens.length cq) ∧ W.cell? ⟨w.heap.size, 3, none⟩ = some (.slice r A.list.length cr) ∧ Below w.heap.size w W ∧ Below w1.heap.size w1 W) from fun W hW => by
    have hc : ∀ j, W.cell? ⟨w.heap.size, j, none⟩ = (w.alloc (.cells #[.int .i64 A.kind, .slice p A.gens.length cp, .slice q A.gens.length cq, .slice r A.list.length cr] 30)).cell? ⟨w.heap.size, j, none⟩ := fun j =>
      (hW.cell (p := ⟨w.heap.size, j, none⟩) (by have := hb.size; simp at this; simp only; omega)).trans (hb.cell (p := ⟨w.heap.size, j, none⟩) (by simp))
    exact ⟨(hc 0).trans (by simp), (hc 1).trans (by simp), (hc 2).trans (by simp), (hc 3).trans (by simp), bnext hbw1 hW, hW⟩)
  have HL := Lib.hid (HRT.out w (Below.refl _ _))
  obtain ⟨x0, x1, x2, x3, _, _⟩ := HX.out w1 (Below.refl _ _)
  go_wp2_with fail
  go_loopw [7] (fun i wr => ∃ k : Nat, k ≤ A.gens.length ∧ i = .int .i64 k ∧ Below w1.heap.size w1 wr) (fun i _ => A.gens.length - (intOf i).toNat)
  case atStart => exact ⟨0, Nat.zero_le _, rfl, Below.refl _ _⟩
  case round =>
    obtain ⟨k, hk, rfl, hbw⟩ := hrel
    clear x0 x1 x2 x3
    obtain ⟨x0, x1, x2, x3, hbx, _⟩ := HX.out wr hbw
    by_cases hlt : k < A.gens.length
    · obtain ⟨b1, o1, rfl, _, hd1⟩ := HGC.out k _ (ints_at hlt)
      obtain ⟨b2, o2, rfl, _, hd2⟩ := HTC.out k _ (bools_at (by rw [HLT.out]; exact hlt))
      have hc1 : wr.cell? ⟨b1, o1 + k, none⟩ = _ := (hbw.cell (p := ⟨b1, o1 + k, none⟩) (cell_lt hd1)).trans hd1
      have hc2 : wr.cell? ⟨b2, o2 + k, none⟩ = _ := (hbw.cell (p := ⟨b2, o2 + k, none⟩) (cell_lt hd2)).trans hd2
      obtain ⟨⟨_, _, e3, _, hg3⟩, ⟨_, _, e4, _, hg4⟩, _⟩ := HL.out
      injection e3 with e3 _ _
      injection e4 with e4 _ _
      subst e3 e4
      obtain ⟨b3, o3, rfl, _, hd3⟩ := hg3 k _ (ints_at hlt)
      obtain ⟨b4, o4, rfl, _, hd4⟩ := hg4 k _ (bools_at (by rw [HLT.out]; exact hlt))
      have hc3 : wr.cell? ⟨b3, o3 + k, none⟩ = _ := (hbx.cell (p := ⟨b3, o3 + k, none⟩) (cell_lt hd3)).trans hd3
      have hc4 : wr.cell? ⟨b4, o4 + k, none⟩ = _ := (hbx.cell (p := ⟨b4, o4 + k, none⟩) (cell_lt hd4)).trans hd4
      clear hd1 hd2 hd3 hd4 hg3 hg4
      have z0 : (0 : Int) ≤ (k : Int) := by omega
      have z1 : (k : Int) < (A.gens.length : Int) := by omega
      generalize A.gens.getD k 0 = g at *
      generalize A.taken.getD k false = t at *
      go_wp2_with fail
      go_quiet (fail)
      go_wp2_with fail
      go_roundw
      case rel => exact ⟨k + 1, by omega, by go_num, below_drewN hbw _⟩
      case measure => simp [intOf]; omega
    · have HPA2 := Lib.hid (fun W hb => (HPA.out W hb).mono fun _ _ h => allPost_shape h)
      have HRA2 := Lib.hid (fun W hb => (HRA.out W hb).mono fun _ _ h => allPost_shape h)

      go_wp2_with fail
      go_region_held3 (fun w' => w'.cell? ⟨w.heap.size, 0, none⟩ = some (.int .i64 A.kind) ∧ w'.cell? ⟨w.heap.size, 1, none⟩ = some (.slice p A.gens.length cp) ∧ w'.cell? ⟨w.heap.size, 2, none⟩ = some (.slice q A.gens.length cq) ∧ w'.cell? ⟨w.heap.size, 3, none⟩ = some (.slice r A.list.length cr) ∧ Below w.heap.size w w' ∧ Below w1.heap.size w1 w')
        (first | exact HX.out _ hbw | exact HX.out _ (below_drew hbw) | (go_split_ands; exact HX.out _ (bnext (by assumption) hb)) | (go_split_ands; exact ⟨by assumption, by assumption, by assumption, by assumption, by assumption, by assumption⟩))
        (first
          | (go_at_call 23; refine (HPA2.out _ ?_).mono ?_; (go_split_ands; assumption); rintro e wa ⟨pa, ca, rfl, la, hb⟩; have hba := hb; have LA := Lib.hid la; clear la)
          | (go_at_call 29; refine (HRA2.out _ ?_).mono ?_; (go_split_ands; assumption); rintro e wb ⟨pb, cb, rfl, lb, hb⟩; have hbb := hb; have LB := Lib.hid lb; clear lb)
          | (go_at_call 28; refine (handles_same S S A.all _ _ _ (LA.out.below hbb) LB.out).mono ?_; rintro e wh ⟨rfl, hb⟩)
          | (go_at_call 20; refine (HPL.out _ ?_).mono ?_; (go_split_ands; assumption); rintro e wl ⟨rfl, rfl⟩))
      go_split_ands
      go_wp2_with fail
      go_ret
      exact ⟨rfl, by assumption⟩
end Go.Proofs.YtmmbopaieffgeaaDoor
