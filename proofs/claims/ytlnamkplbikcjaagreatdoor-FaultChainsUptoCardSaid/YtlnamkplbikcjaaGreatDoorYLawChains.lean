/- The law FaultChains: the texts of all links, one in the other; no condition but that a text is of 2^40 bytes at most, and what the rows' listed variables hold. -/
import Derived.Test.YtlnamkplbikcjaaGreatDoorYChainR
import Derived.Test.YtlnamkplbikcjaaGreatDoorYMadeL
import Derived.Test.YtlnamkplbikcjaaGreatDoorYWorks
import Derived.BigQuiet
namespace Go.Proofs.YtlnamkplbikcjaaGreatDoor
open Go.RowKit Ft

theorem chain_len (e : Er) (f : Nat) : (e.chain f).length ≤ f := by
  induction f generalizing e with
  | zero => simp [Er.chain]
  | succ f ih =>
    by_cases h : e = .nil
    · subst h; simp [Er.chain]
    · rw [chain_step f h, List.length_cons]; have := ih e.inner; omega
theorem below_drewsC {B : Nat} {w a : World} (h : Below B w a) (k : Nat) : Below B w (a.drewN k) := ⟨h.os, h.tape, h.output, h.size, h.block⟩
/-- A string of a row. -/
theorem strs_at {w : World} {B : Nat} {p : Option Addr} {cap : Nat} {L : List (List UInt8)} (h : w.ownsRow B 9 1 (.slice p L.length cap) L.length (strs L)) (i : Nat) (hi : i < L.length) : ∃ g, p = some ⟨g, 0, none⟩ ∧ w.cell? ⟨g, i, none⟩ = some (.string ⟨L[i].toArray⟩) := by
  obtain ⟨g, cap', cur, hv, _, _⟩ := own_block h (by omega)
  cases hv
  refine ⟨g, rfl, ?_⟩
  have := h.cells (g := g) rfl i (.string ⟨L[i].toArray⟩) (by simp [strs, List.getElem?_map, List.getElem?_eq_getElem hi])
  rw [addr_plus] at this
  simpa using this
set_option maxHeartbeats 8000000 in
set_option maxRecDepth 100000 in
theorem chains_law (v : Value) (d : Dt) (w : World) (hg : LaidAt w) (hok : d.ok) (hv : DV w d v) (hlen : d.many 400 < 400 → ∀ said, (d.toE.txt said).length ≤ 1099511627776) :
    Calls Tryz.prog 4 #[v] w fun r w' => r = .returned (.bool true) ∧ Below w.heap.size w w' := by
  obtain ⟨p, cap, rfl, hm, h0, h1⟩ := hv.parts
  obtain ⟨WB, hWB⟩ : ∃ WB, WB = w.alloc (.cells #[.int .i64 d.k, .int .i64 d.op, .int .i64 d.h, .int .i64 d.n, .string d.t, .slice p d.m cap] 25) := ⟨_, rfl⟩
  have hb : Below w.heap.size w WB := by rw [hWB]; exact (by repeat (first | exact Below.refl _ _ | (with_reducible assumption) | refine Below.drew ?_ | (refine Below.alloc ?_ (by first | exact Nat.le_refl _ | omega | (simp; done) | (simp; omega)) _) | (refine Below.setCell ?_ (by first | omega | (simp; done) | (simp; omega)) _)))
  have x0 : WB.cell? ⟨w.heap.size, 0, none⟩ = some (.int .i64 d.k) := by rw [hWB]; simp
  have x1 : WB.cell? ⟨w.heap.size, 1, none⟩ = some (.int .i64 d.op) := by rw [hWB]; simp
  have x2 : WB.cell? ⟨w.heap.size, 2, none⟩ = some (.int .i64 d.h) := by rw [hWB]; simp
  have x3 : WB.cell? ⟨w.heap.size, 3, none⟩ = some (.int .i64 d.n) := by rw [hWB]; simp
  have x4 : WB.cell? ⟨w.heap.size, 4, none⟩ = some (.string d.t) := by rw [hWB]; simp
  have x5 : WB.cell? ⟨w.heap.size, 5, none⟩ = some (.slice p d.m cap) := by rw [hWB]; simp
  have HX := Lib.hid (fun W (hW : Below WB.heap.size WB W) => (⟨(hW.cell (cell_lt x0)).trans x0, (hW.cell (cell_lt x1)).trans x1, (hW.cell (cell_lt x2)).trans x2, (hW.cell (cell_lt x3)).trans x3, (hW.cell (cell_lt x4)).trans x4, (hW.cell (cell_lt x5)).trans x5⟩ : W.cell? ⟨w.heap.size, 0, none⟩ = some (.int .i64 d.k) ∧ W.cell? ⟨w.heap.size, 1, none⟩ = some (.int .i64 d.op) ∧ W.cell? ⟨w.heap.size, 2, none⟩ = some (.int .i64 d.h) ∧ W.cell? ⟨w.heap.size, 3, none⟩ = some (.int .i64 d.n) ∧ W.cell? ⟨w.heap.size, 4, none⟩ = some (.string d.t) ∧ W.cell? ⟨w.heap.size, 5, none⟩ = some (.slice p d.m cap)))
  have HWk := Lib.hid (fun W (hW : Below WB.heap.size WB W) => works_any W (hg.below (bnext hb hW)))
  have HPl := Lib.hid (plain_any d _ WB (DV.below hb hv))
  have HMd := Lib.hid (fun W (hW : Below WB.heap.size WB W) => (made_any d _ W (DV.below (bnext hb hW) hv)).mono (R' := fun r w' => ∃ u, r = .returned u ∧ EV w'.heap.size w' d.toE u ∧ Below W.heap.size W w') (fun _ _ h => h))
  have HLd := Lib.hid (fun W (hW : Below WB.heap.size WB W) => hg.below (bnext hb hW))
  have HOk := Lib.hid (Dt.ok_toE hok)
  have HCh := Lib.hid (fun (hl : (d.toE.txt false).length ≤ 140737488355328) W u (hW : Below WB.heap.size WB W) (hu : EV W.heap.size W d.toE u) => (chain_any d.toE (Dt.ok_toE hok) W.heap.size u W (Nat.le_refl _) (hg.below (bnext hb hW)) hu hl).mono (R' := fun r w' => ∃ q c, r = .returned (.slice q (d.toE.chain 64).length c) ∧ Below W.heap.size W w' ∧ Hid (w'.ownsRow W.heap.size 9 1 (.slice q (d.toE.chain 64).length c) (d.toE.chain 64).length (strs (d.toE.chain 64)))) (fun r w' h => by obtain ⟨q, c, h1, h2, h3⟩ := h; exact ⟨q, c, h1, h3, Lib.hid h2⟩))
  have HCr := Lib.hid (fun (hl : (d.toE.txt false).length ≤ 1099511627776) W (hW : Below WB.heap.size WB W) => (rchain_any d hok hl w _ W (bnext hb hW) hv).mono (R' := fun r w' => ∃ q c, r = .returned (.slice q (d.toE.chain 64).length c) ∧ Below W.heap.size W w' ∧ Hid (w'.ownsRow W.heap.size 9 1 (.slice q (d.toE.chain 64).length c) (d.toE.chain 64).length (strs (d.toE.chain 64)))) (fun r w' h => by obtain ⟨q, c, h1, h2, h3⟩ := h; exact ⟨q, c, h1, h3, Lib.hid h2⟩))
  have HLn := Lib.hid hlen
  have HL64 := chain_len d.toE 64
  have HB := Lib.hid hb
  have HW := Lib.hid hWB
  clear hg hv h0 h1 hb hWB hlen hok
  generalize d.k = k at *; generalize d.op = op at *; generalize d.h = h at *; generalize d.n = n at *; generalize d.t = t at *; generalize d.m = m at *
  generalize d.toE = e at *
  generalize e.chain 64 = L at *
  generalize hpl : decide (d.many 400 < 400) = pl at *
  go_enter Tryz.func4, Tryz.ntmps4
  go_wp2_with fail
  rw [← HW.out]
  refine HPl.out.mono ?_
  rintro r w1 ⟨rfl, hb1⟩
  have K1 := Lib.hid hb1
  clear hb1 x0 x1 x2 x3 x4 x5
  cases pl with
  | false =>
    go_wp2_with fail
    refine (HWk.out _ K1.out).mono ?_
    rintro r w2 ⟨rfl, hb2⟩
    go_wp2_with fail
    go_ret
    exact ⟨rfl, bnext (bnext HB.out K1.out) hb2⟩
  | true =>
    have hl := HLn.out (of_decide_eq_true hpl)
    have HCr := Lib.hid (HCr.out (hl false))
    have HCh := Lib.hid (HCh.out (Nat.le_trans (hl false) (by decide : 1099511627776 ≤ 140737488355328)))
    have HMd := Lib.hid (fun W (hW : Below WB.heap.size WB W) => (HMd.out W hW).mono (R' := fun r w' => ∃ u, r = .returned u ∧ Below W.heap.size W w' ∧ Hid (EV w'.heap.size w' e u)) (fun r w' h => by obtain ⟨u, h1, h2, h3⟩ := h; exact ⟨u, h1, h3, Lib.hid h2⟩))
    clear hl hpl
    obtain ⟨x0, x1, x2, x3, x4, x5⟩ := HX.out w1 K1.out
    have HD := Lib.hid (below_drew K1.out)
    go_wp2_with fail
    go_region_held3 (fun w' => w'.cell? ⟨w.heap.size, 0, none⟩ = some (.int .i64 k) ∧ w'.cell? ⟨w.heap.size, 1, none⟩ = some (.int .i64 op) ∧ w'.cell? ⟨w.heap.size, 2, none⟩ = some (.int .i64 h) ∧ w'.cell? ⟨w.heap.size, 3, none⟩ = some (.int .i64 n) ∧ w'.cell? ⟨w.heap.size, 4, none⟩ = some (.string t) ∧ w'.cell? ⟨w.heap.size, 5, none⟩ = some (.slice p m cap) ∧ Below WB.heap.size WB w')
      (first
        | exact ⟨x0, x1, x2, x3, x4, x5, HD.out⟩
        | (go_split_ands; refine ⟨(hb.cell (p := ⟨w.heap.size, 0, none⟩) (cell_lt (by assumption))).trans (by assumption), (hb.cell (p := ⟨w.heap.size, 1, none⟩) (cell_lt (by assumption))).trans (by assumption), (hb.cell (p := ⟨w.heap.size, 2, none⟩) (cell_lt (by assumption))).trans (by assumption), (hb.cell (p := ⟨w.heap.size, 3, none⟩) (cell_lt (by assumption))).trans (by assumption), (hb.cell (p := ⟨w.heap.size, 4, none⟩) (cell_lt (by assumption))).trans (by assumption), (hb.cell (p := ⟨w.heap.size, 5, none⟩) (cell_lt (by assumption))).trans (by assumption), bnext (by assumption) hb⟩)
        | go_keep)
      (first
        | (go_at_call 7; with_reducible refine (HMd.out _ (by first | assumption | (go_split_ands; assumption))).mono ?_; rintro r w' ⟨u, rfl, hb, hu⟩)
        | (go_at_call 12; with_reducible refine (HCh.out _ _ (by first | assumption | (go_split_ands; assumption)) hu.out).mono ?_; rintro r w' ⟨qa, ca, rfl, hb, hqa⟩)
        | (go_at_call 13; with_reducible refine (HCr.out _ (by first | assumption | (go_split_ands; assumption))).mono ?_; rintro r w' ⟨qb, cb, rfl, hb, hqb⟩))
    all_goals
      have OA := Lib.hid (own_under hqa.out hb)
      have OB := hqb
      have hbW : Below WB.heap.size WB w' := by go_split_ands; assumption
      have HBW := Lib.hid hbW
      have hnn : ((L.length : Int) != (L.length : Int)) = false := by simp
      clear hbW hb hqa hqb hu
      go_wp2_with fail
      go_loopw [5] (fun iv wr => ∃ j : Nat, iv = .int .i64 j ∧ j ≤ L.length ∧ Hid (Below w'.heap.size w' wr)) (fun iv _ => L.length - (intOf iv).toNat)
      case atStart => exact ⟨0, rfl, by omega, Lib.hid (Below.refl _ _)⟩
      case round =>
        obtain ⟨j, rfl, hj, hbr⟩ := hrel
        by_cases hjl : j < L.length
        · obtain ⟨ga, rfl, ya⟩ := strs_at (own_under OA.out hbr.out) j hjl
          obtain ⟨gb, rfl, yb⟩ := strs_at (own_under OB.out hbr.out) j hjl
          have hj1 : (j : Int) < (L.length : Int) := by omega
          have hj0 : (0 : Int) ≤ (j : Int) := by omega
          generalize L[j] = A at *
          have hAA : (A != A) = false := by simp
          go_wp2_with fail
          go_quiet (fail)
          go_wp2_with fail
          go_roundw
          case rel => exact ⟨j + 1, by go_num, by omega, Lib.hid (below_drewsC hbr.out _)⟩
          case measure => simp [intOf]; omega
        · have hj2 : ¬ (j : Int) < (L.length : Int) := by omega
          go_wp2_with fail
          refine (HWk.out _ (bnext HBW.out hbr.out)).mono ?_
          rintro r w9 ⟨rfl, hb9⟩
          go_wp2_with fail
          go_ret
          exact ⟨rfl, bnext (bnext HB.out (bnext HBW.out hbr.out)) hb9⟩
end Go.Proofs.YtlnamkplbikcjaaGreatDoor
