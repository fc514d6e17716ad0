/- The law FaultIs: a row of Faults and Places is made, and asked for; no condition but what the rows' listed variables hold. -/
import Derived.Test.YtlnamkplbikcjaaDoorYRow
import Derived.Deep.RegionHeld3
namespace Go.Proofs.YtlnamkplbikcjaaDoor
open Go.RowKit Ft

/-- A link that is laid round an error, as the law's loop asks it. -/
def LkPost (wr : World) (e : Er) (r : Ending) (w' : World) : Prop := ∃ u, r = .returned u ∧ Hid (EV w'.heap.size w' e u ∧ Below wr.heap.size wr w' ∧ wr.heap.size < w'.heap.size)
theorem wrap_row (x : Int) (e : Er) (hne : e ≠ .nil) (v : Value) (wr : World) (hev : EV wr.heap.size wr e v) : ∀ W, Below wr.heap.size wr W →
    Calls Tryd.prog 19 #[.int .i64 x, .int .i64 x, v] W (LkPost wr (.fault x x e)) := by
  intro W hW
  refine (wrap_any x x e hne wr.heap.size v W hW.size (hev.keep hW)).mono ?_
  rintro r w' ⟨u, rfl, h1, h2, h3⟩
  exact ⟨u, rfl, Lib.hid ⟨EV.up h3 h1, bnext hW h2, Nat.lt_of_le_of_lt hW.size h3⟩⟩
theorem line_row (x : Int) (e : Er) (hne : e ≠ .nil) (v : Value) (wr : World) (hev : EV wr.heap.size wr e v) :
    Calls Tryd.prog 20 #[.int .i64 x, v] wr (LkPost wr (.place x e)) := by
  refine (line_any x e hne wr.heap.size v wr (Nat.le_refl _) hev).mono ?_
  rintro r w' ⟨u, rfl, h1, h2, h3⟩
  exact ⟨u, rfl, Lib.hid ⟨EV.up h3 h1, h2, h3⟩⟩
set_option maxHeartbeats 8000000 in
set_option maxRecDepth 100000 in
theorem is_law (v : Value) (k : Nat) (f : Nat → Int) (n m : Int) (w : World) (hg : LaidAt w) (hv : Nums w v k f) (hf : ∀ i, i < k → I64 (f i)) (hn : I64 n) (_hm : I64 m) :
    Calls Tryd.prog 5 #[v, .int .i64 n, .int .i64 m] w fun r w' => r = .returned (.bool true) ∧ Below w.heap.size w w' := by
  obtain ⟨p, cap, rfl, hk, hc⟩ := hv
  have HW := Lib.hid (fun W (hW : Below w.heap.size w W) => works_any W (hg.below hW))
  have HG := Lib.hid hg
  have HC := Lib.hid hc
  have HF := Lib.hid hf
  have HB0 := Lib.hid (RowI.base n hn)
  clear hg hc hf
  by_cases h200 : k ≤ 200
  case neg =>
    have h1 : (200 : Int) < (k : Int) := by omega
    clear h200
    go_enter Tryd.func5, Tryd.ntmps5
    go_wp2_with fail
    refine (HW.out _ (Below.refl _ _)).mono ?_
    rintro r w1 ⟨rfl, hb⟩
    go_wp2_with fail
    go_ret
    exact ⟨rfl, hb⟩
  case pos =>
    have h1 : ¬ (200 : Int) < (k : Int) := by omega
    go_enter Tryd.func5, Tryd.ntmps5
    go_wp2_with fail
    go_loopw [7, 8, 9, 10, 11, 12] (fun ev ov lv fv pv iv wr => ∃ (j : Nat) (e : Er) (op line : Int) (fs ps : Bool), iv = .int .i64 j ∧ j ≤ k ∧ ov = .int .i64 op ∧ lv = .int .i64 line ∧ fv = .bool fs ∧ pv = .bool ps ∧ Hid (RowI n (j + 1) e op line fs ps) ∧ Hid (EV wr.heap.size wr e ev) ∧ Hid (Below w.heap.size w wr)) (fun _ _ _ _ _ iv _ => k - (intOf iv).toNat)
    case atStart => exact ⟨0, .num n, 0, 0, false, false, rfl, by omega, rfl, rfl, rfl, rfl, HB0, Lib.hid rfl, Lib.hid (Below.refl _ _)⟩
    case round =>
      obtain ⟨j, e, op, line, fs, ps, rfl, hj, rfl, rfl, rfl, rfl, hr, hev, hb⟩ := hrel
      by_cases hjk : j < k
      · obtain ⟨b, off, hp, cj⟩ := HC.out j hjk
        subst hp
        have c0 := (hb.out.cell (p := ⟨b, off + j, none⟩) (cell_blk cj)).trans cj
        have hx := HF.out j hjk
        have hjk' : (j : Int) < (k : Int) := by omega
        have hj0 : (0 : Int) ≤ (j : Int) := by omega
        generalize f j = x at *
        have HX1 := Lib.hid (hr.out.flt x hx)
        have HX2 := Lib.hid (hr.out.plc x hx)
        have hne := hr.out.row.ne
        have HWr := Lib.hid (wrap_row x e hne u7 wr hev.out)
        have HLn := Lib.hid (line_row x e hne u7 wr hev.out)
        clear hne cj hx
        by_cases hm2 : Int.tmod x 2 = 0
        · have hm2' : (Int.tmod x 2 == 0) = true := by rw [hm2]; rfl
          go_wp2_with fail
          go_region_held3 (fun w' => w'.cell? ⟨b, off + j, none⟩ = some (.int .i64 x) ∧ Below wr.heap.size wr w')
            (first
              | exact ⟨c0, below_drewOne⟩
              | exact ⟨(hq.out.2.1.cell (p := ⟨b, off + j, none⟩) (cell_blk c0)).trans c0, hq.out.2.1⟩
              | (go_split_ands; exact ⟨by assumption, by assumption⟩)
              | go_keep)
            (first | (go_at_call 19; refine (HWr.out _ (by first | assumption | (go_split_ands; assumption))).mono ?_; rintro r w' ⟨u, rfl, hq⟩))
          obtain ⟨hu, hbu, hlt⟩ := hq.out
          have c1 := (hbu.cell (p := ⟨b, off + j, none⟩) (cell_blk c0)).trans c0
          have HU := Lib.hid hu
          have HBU := Lib.hid hbu
          clear hu hbu hlt
          go_wp2_with fail
          go_roundw
          case rel => exact ⟨j + 1, .fault x x e, x, line, true, ps, by go_num, by omega, rfl, rfl, rfl, rfl, HX1, HU, Lib.hid (bnext hb.out HBU.out)⟩
          case measure => simp [intOf]; omega
        · have hm2' : (Int.tmod x 2 == 0) = false := by rw [beq_eq_false_iff_ne]; exact hm2
          go_wp2_with fail
          refine HLn.out.mono ?_
          rintro r w' ⟨u, rfl, hq⟩
          obtain ⟨hu, hbu, hlt⟩ := hq.out
          have c1 := (hbu.cell (p := ⟨b, off + j, none⟩) (cell_blk c0)).trans c0
          have HU := Lib.hid hu
          have HBU := Lib.hid hbu
          clear hu hbu hlt
          go_wp2_with fail
          go_roundw
          case rel => exact ⟨j + 1, .place x e, op, x, fs, true, by go_num, by omega, rfl, rfl, rfl, rfl, HX2, HU, Lib.hid (bnext hb.out HBU.out)⟩
          case measure => simp [intOf]; omega
      · have hjk2 : j = k := by omega
        subst hjk2
        have hI := hr.out
        have hle : (e.txt false).length ≤ 140737488355328 := by have := hI.len; omega
        have F1 := Lib.hid (show ∀ q W, Below wr.heap.size wr W → Calls Tryd.prog 21 #[u7, .iface 38 (.int .i64 q)] W fun r w' => r = .returned (.bool (n == q)) ∧ Below wr.heap.size wr w' from fun q W hW => (Is_all q e wr.heap.size _ W hW.size (hev.out.keep hW)).mono (fun r w' h => ⟨by rw [← hI.row.has]; exact h.1, bnext hW h.2⟩))
        have F2 := Lib.hid (show ∀ W, Below wr.heap.size wr W → Calls Tryd.prog 14 #[u7] W fun r w' => r = .returned (.int .i64 n) ∧ Below wr.heap.size wr w' from fun W hW => (why_any e wr.heap.size _ W hW.size (HG.out.below (bnext hb.out hW)) (hev.out.keep hW)).mono (fun r w' h => ⟨by rw [← hI.row.why]; exact h.1, bnext hW h.2⟩))
        have F3 := Lib.hid (show ∀ W, Below wr.heap.size wr W → Calls Tryd.prog 12 #[u7] W fun r w' => r = .returned (.tuple #[.int .i64 op, .bool fs]) ∧ Below wr.heap.size wr w' from fun W hW => (What_any e wr.heap.size _ W hW.size (HG.out.below (bnext hb.out hW)) (hev.out.keep hW)).mono (fun r w' h => ⟨by
          rw [h.1, hI.at']
          cases fs with
          | true => rfl
          | false => rw [hI.o0 rfl]; rfl, bnext hW h.2⟩))
        have F4 := Lib.hid (show ∀ W, Below wr.heap.size wr W → Calls Tryd.prog 13 #[u7] W fun r w' => r = .returned (.tuple #[.int .i64 line, .bool ps]) ∧ Below wr.heap.size wr w' from fun W hW => (LineOf_any e wr.heap.size _ W hW.size (HG.out.below (bnext hb.out hW)) (hev.out.keep hW)).mono (fun r w' h => ⟨by
          rw [h.1, hI.ln]
          cases ps with
          | true => rfl
          | false => rw [hI.l0 rfl]; rfl, bnext hW h.2⟩))
        have F5 := Lib.hid (show ∀ W, Below wr.heap.size wr W → Calls Tryd.prog 11 #[u7] W fun r w' => r = .returned (.tuple #[.int .i64 op, .bool fs]) ∧ Below wr.heap.size wr w' from fun W hW => (Where_any e wr.heap.size _ W hW.size (HG.out.below (bnext hb.out hW)) (hev.out.keep hW)).mono (fun r w' h => ⟨by
          rw [h.1, hI.at']
          cases fs with
          | true => rfl
          | false => rw [hI.o0 rfl]; rfl, bnext hW h.2⟩))
        have F6 := Lib.hid (show ∀ W, Below wr.heap.size wr W → Calls Tryd.prog 22 #[u7] W fun r w' => ∃ q c, r = .returned (.slice q (min 64 (j + 1)) c) ∧ Below wr.heap.size wr w' from fun W hW => (chain_any e hI.ok wr.heap.size _ W hW.size (HG.out.below (bnext hb.out hW)) (hev.out.keep hW) hle).mono (by
          rintro r w' ⟨q, c, rfl, -, h2⟩
          exact ⟨q, c, by rw [hI.row.chain], bnext hW h2⟩))
        have HWk := Lib.hid (show ∀ W, Below wr.heap.size wr W → Calls Tryd.prog 7 #[] W fun r w' => r = .returned (.bool true) ∧ Below w.heap.size w w' from fun W hW => (HW.out W (bnext hb.out hW)).mono (fun r w' h => ⟨h.1, bnext (bnext hb.out hW) h.2⟩))
        obtain ⟨ti, pi, rfl⟩ := hev.out.iface hI.row.ne
        have hmn : (n == m) = (m == n) := by
          by_cases h : n = m
          · rw [h]
          · rw [beq_eq_false_iff_ne.2 h, beq_eq_false_iff_ne.2 (fun h2 => h h2.symm)]
        have hnn : (n == n) = true := beq_self_eq_true n
        have HMN := Lib.hid hmn
        clear hI hle hmn HC HF HW hev hr
        go_wp2_with fail
        refine (F1.out n _ (Below.refl _ _)).mono ?_
        rintro r w1 ⟨rfl, k1⟩
        have K1 := Lib.hid k1
        clear k1
        rw [hnn]
        go_wp2_with fail
        refine (F1.out m _ K1.out).mono ?_
        rintro r w2 ⟨rfl, k2⟩
        have K2 := Lib.hid k2
        clear k2
        rw [HMN.out]
        generalize hmb : (m == n) = mb
        have hxx : (mb != mb) = false := by cases mb <;> rfl
        have hfs : (fs == fs) = true := by cases fs <;> rfl
        have hps : (ps == ps) = true := by cases ps <;> rfl
        have hoo : (op == op) = true := beq_self_eq_true op
        have hll : (line == line) = true := beq_self_eq_true line
        go_wp2_with fail
        refine (F2.out _ K2.out).mono ?_
        rintro r w3 ⟨rfl, k3⟩
        have K3 := Lib.hid k3
        clear k3
        have hnz : (n != n) = false := by simp
        go_wp2_with fail
        refine (F3.out _ K3.out).mono ?_
        rintro r w4 ⟨rfl, k4⟩
        have K4 := Lib.hid k4
        clear k4
        go_wp2_with fail
        refine (F4.out _ K4.out).mono ?_
        rintro r w5 ⟨rfl, k5⟩
        have K5 := Lib.hid k5
        clear k5
        go_wp2_with fail
        refine (F5.out _ K5.out).mono ?_
        rintro r w6 ⟨rfl, k6⟩
        have K6 := Lib.hid k6
        clear k6
        go_wp2_with fail
        refine (F6.out _ K6.out).mono ?_
        rintro r w7 ⟨q, c, rfl, k7⟩
        have K7 := Lib.hid k7
        clear k7
        go_wp2_with fail
        refine (HWk.out _ K7.out).mono ?_
        rintro r w8 ⟨rfl, k8⟩
        go_wp2_with fail
        go_ret
        exact ⟨rfl, k8⟩
end Go.Proofs.YtlnamkplbikcjaaDoor
