/- The program's write and told, with names: an error's text goes behind what a builder holds; no condition but that the text is at most 2^47 bytes, and what the rows' listed variables hold. -/
import Derived.Test.YtlnamkplbikcjaaGreatDoorYWriteA
namespace Go.Proofs.YtlnamkplbikcjaaGreatDoor
open Go.RowKit Ft

/-- What a call of write answers. -/
abbrev WPostT (B b : Nat) (l : List UInt8) (e : Er) (w : World) (r : Ending) (w' : World) : Prop := r = .returned (.tuple #[]) ∧ Bld B b (l ++ e.txt true) w' ∧ Below B w w'
set_option maxHeartbeats 2000000 in
theorem writeT_nil (l : List UInt8) (w : World) (B b : Nat) (hl : Bld B b l w) :
    Calls Tryz.prog 38 #[.pointer (some ⟨b, 0, none⟩), .nilIface, .func (.func 23) #[] #[]] w (WPostT B b l .nil w) := by
  have HB := Lib.hid hl
  clear hl
  go_enter Tryz.func38, Tryz.ntmps38
  go_wp2_with fail
  go_end0
  exact ⟨rfl, by simpa [Er.txt] using HB.out, Below.refl _ _⟩
set_option maxHeartbeats 2000000 in
theorem writeT_num (n : Int) (hn : I64 n) (l : List UInt8) (w : World) (B b : Nat) (hg : LaidAt w) (hl : Bld B b l w) (hs : l.length + (nbrL true n).length ≤ 140737488355328) :
    Calls Tryz.prog 38 #[.pointer (some ⟨b, 0, none⟩), .iface 39 (.int .i64 n), .func (.func 23) #[] #[]] w (WPostT B b l (.num n) w) := by
  have HN := Lib.hid (nameor n hn w hg)
  have hlt := hl.lt
  have HB := Lib.hid hl
  have t1 := ta_num_flt
  have t2 := ta_num_plc
  have t3 := ta_num_par
  have t4 := ta_num_num
  clear hl hg hn
  unfold WPostT Er.txt
  go_enter Tryz.func38, Tryz.ntmps38
  go_wp2_with fail
  refine HN.out.mono ?_
  rintro e w1 ⟨rfl, hb1⟩
  have HW := Lib.hid (bwrite B b l ⟨(nbrL true n).toArray⟩ w1 (HB.out.below hb1) (by rw [bsize]; exact hs) (by have := hb1.size; omega))
  go_wp2_with fail
  refine HW.out.mono ?_
  rintro e w2 ⟨rfl, hbl, hb2⟩
  go_wp2_with fail
  go_end0
  exact ⟨rfl, by simpa using hbl, (hb1.mono (by omega)).trans hb2⟩

set_option maxHeartbeats 2000000 in
theorem writeT_odd (s : ByteArray) (l : List UInt8) (w : World) (B b : Nat) (hl : Bld B b l w) (hs : l.length + s.size ≤ 140737488355328) :
    Calls Tryz.prog 38 #[.pointer (some ⟨b, 0, none⟩), .iface 57 (.agg #[.string s]), .func (.func 23) #[] #[]] w (WPostT B b l (.odd s) w) := by
  have HN := Lib.hid (own_odd s w)
  have hlt := hl.lt
  have HB := Lib.hid hl
  have t1 := ta_odd_flt
  have t2 := ta_odd_plc
  have t3 := ta_odd_par
  have t4 := ta_odd_num
  clear hl
  unfold WPostT Er.txt
  go_enter Tryz.func38, Tryz.ntmps38
  go_wp2_with fail
  refine HN.out.mono ?_
  rintro e w1 ⟨rfl, hb1⟩
  have HW := Lib.hid (bwrite B b l s w1 (HB.out.below hb1) hs (by have := hb1.size; omega))
  go_wp2_with fail
  refine HW.out.mono ?_
  rintro e w2 ⟨rfl, hbl, hb2⟩
  go_wp2_with fail
  go_end0
  exact ⟨rfl, hbl, (hb1.mono (by omega)).trans hb2⟩
set_option maxHeartbeats 2000000 in
theorem writeT_nF (l : List UInt8) (w : World) (B b : Nat) (hl : Bld B b l w) :
    Calls Tryz.prog 38 #[.pointer (some ⟨b, 0, none⟩), .iface 46 (.pointer none), .func (.func 23) #[] #[]] w (WPostT B b l .nF w) := by
  have HB := Lib.hid hl
  have t1 := ta_flt_flt
  clear hl
  go_enter Tryz.func38, Tryz.ntmps38
  go_wp2_with fail
  go_end0
  exact ⟨rfl, by simpa [Er.txt] using HB.out, Below.refl _ _⟩
set_option maxHeartbeats 2000000 in
theorem writeT_nP (l : List UInt8) (w : World) (B b : Nat) (hl : Bld B b l w) :
    Calls Tryz.prog 38 #[.pointer (some ⟨b, 0, none⟩), .iface 50 (.pointer none), .func (.func 23) #[] #[]] w (WPostT B b l .nP w) := by
  have HB := Lib.hid hl
  have t1 := ta_plc_flt
  have t2 := ta_plc_plc
  clear hl
  go_enter Tryz.func38, Tryz.ntmps38
  go_wp2_with fail
  go_end0
  exact ⟨rfl, by simpa [Er.txt] using HB.out, Below.refl _ _⟩
set_option maxHeartbeats 2000000 in
theorem writeT_nQ (l : List UInt8) (w : World) (B b : Nat) (hl : Bld B b l w) :
    Calls Tryz.prog 38 #[.pointer (some ⟨b, 0, none⟩), .iface 53 (.pointer none), .func (.func 23) #[] #[]] w (WPostT B b l .nQ w) := by
  have HB := Lib.hid hl
  have t1 := ta_par_flt
  have t2 := ta_par_plc
  have t3 := ta_par_par
  clear hl
  go_enter Tryz.func38, Tryz.ntmps38
  go_wp2_with fail
  go_end0
  exact ⟨rfl, by simpa [Er.txt] using HB.out, Below.refl _ _⟩
set_option maxHeartbeats 2000000 in
theorem writeT_place (n : Int) (e : Er) (hn : I64 n) (ih : ∀ (v : Value) (l : List UInt8) (w : World) (B b : Nat), LaidAt w → LB B → EV B w e v → Bld B b l w → l.length + (e.txt true).length ≤ 140737488355328 →
      Calls Tryz.prog 38 #[.pointer (some ⟨b, 0, none⟩), v, .func (.func 23) #[] #[]] w (WPostT B b l e w)) (v : Value) (l : List UInt8) (w : World) (B b : Nat) (hg : LaidAt w) (hB : LB B) (hv : EV B w (.place n e) v) (hl : Bld B b l w) (hs : l.length + ((Er.place n e).txt true).length ≤ 140737488355328) :
    Calls Tryz.prog 38 #[.pointer (some ⟨b, 0, none⟩), v, .func (.func 23) #[] #[]] w (WPostT B b l (.place n e) w) := by
  obtain ⟨k, x, rfl, hk, c0, c1, hx⟩ := hv
  have hlt := hl.lt
  have HN := Lib.hid (itoa_i n hn w hg)
  have hl20 := itoa_len n hn
  have n1 : ¬ 9223372036854775807 < 5 + (Lib.itoa n).length := by omega
  have n2 : ¬ 9223372036854775807 < 5 + (Lib.itoa n).length + 2 := by omega
  have HB := Lib.hid hl
  have hlen : ((Er.place n e).txt true).length = (plcL n).length + (e.txt true).length := by simp [Er.txt]
  have hpl : (plcL n).length = 5 + (Lib.itoa n).length + 2 := by simp [plcL]; omega
  have HS := Lib.hid hs
  have HL := Lib.hid hlen
  have HP := Lib.hid hpl
  have HX := Lib.hid hx
  have HG := Lib.hid hg
  have HBB := Lib.hid hB
  have HI := Lib.hid ih
  have t1 := ta_plc_flt
  have t2 := ta_plc_plc
  clear hl hg hn hs hlen hpl hx hB ih
  unfold WPostT Er.txt
  go_enter Tryz.func38, Tryz.ntmps38
  go_wp2_with fail
  refine HN.out.mono ?_
  rintro r w1 ⟨rfl, hb1⟩
  have HW := Lib.hid (bwrite B b l ⟨(plcL n).toArray⟩ w1 (HB.out.below hb1) (by rw [bsize]; have := HS.out; rw [HL.out] at this; omega) (by have := hb1.size; omega))
  have hcat : (⟨#[108, 105, 110, 101, 32]⟩ : ByteArray) ++ ⟨(Lib.itoa n).toArray⟩ ++ ⟨#[58, 32]⟩ = ⟨(plcL n).toArray⟩ := by
    have e1 := cat2 [108, 105, 110, 101, 32] (Lib.itoa n)
    have e2 := cat2 ([108, 105, 110, 101, 32] ++ Lib.itoa n) [58, 32]
    rw [← e1, List.append_assoc] at e2
    exact e2
  go_wp2_with fail
  refine HW.out.mono ?_
  rintro r w2 ⟨rfl, hbl, hb2⟩
  have hb12 : Below B w w2 := (hb1.mono (by omega)).trans hb2
  have d1 := (hb12.cell (p := ⟨k, 1, none⟩) hk).trans c1
  have HJ := Lib.hid (HI.out x (l ++ plcL n) w2 B b (HG.out.keep HBB.out hb12) HBB.out (HX.out.keep hb12) (by simpa using hbl) (by have := HS.out; rw [HL.out] at this; rw [List.length_append]; omega))
  go_wp2_with fail
  refine HJ.out.mono ?_
  rintro r w3 ⟨rfl, hbl3, hb3⟩
  go_wp2_with fail
  go_end0
  exact ⟨rfl, by rw [← List.append_assoc]; exact hbl3, hb12.trans hb3⟩

set_option maxHeartbeats 4000000 in
theorem writeT_fault (op h : Int) (e : Er) (hop : I64 op) (hh : I64 h) (ih : ∀ (v : Value) (l : List UInt8) (w : World) (B b : Nat), LaidAt w → LB B → EV B w e v → Bld B b l w → l.length + (e.txt true).length ≤ 140737488355328 →
      Calls Tryz.prog 38 #[.pointer (some ⟨b, 0, none⟩), v, .func (.func 23) #[] #[]] w (WPostT B b l e w)) (v : Value) (l : List UInt8) (w : World) (B b : Nat) (hg : LaidAt w) (hB : LB B) (hv : EV B w (.fault op h e) v) (hl : Bld B b l w) (hs : l.length + ((Er.fault op h e).txt true).length ≤ 140737488355328) :
    Calls Tryz.prog 38 #[.pointer (some ⟨b, 0, none⟩), v, .func (.func 23) #[] #[]] w (WPostT B b l (.fault op h e) w) := by
  obtain ⟨k, x, rfl, hk, c0, c1, c2, hx⟩ := hv
  have hlt := hl.lt
  have HK : k < w.heap.size := by omega
  have HO := Lib.hid (show ∀ W, Below w.heap.size w W → Calls Tryz.prog 54 #[.int .i64 op] W fun e w' => e = .returned (.string ⟨(opL op).toArray⟩) ∧ Below w.heap.size w w' from fun W hb => (opname op hop W (hg.below hb)).mono (by rintro r w2 ⟨rfl, h2⟩; exact ⟨rfl, bnext hb h2⟩))
  have HH := Lib.hid (show ∀ W, Below w.heap.size w W → Calls Tryz.prog 55 #[.int .i64 h] W fun e w' => e = .returned (.string ⟨(toldL h).toArray⟩) ∧ Below w.heap.size w w' from fun W hb => (told_h h hh W (hg.below hb)).mono (by rintro r w2 ⟨rfl, h2⟩; exact ⟨rfl, bnext hb h2⟩))
  have l1 := opL_len op hop
  have l2 := toldL_len h hh
  have n1 : ¬ 9223372036854775807 < (opL op).length + 1 := by omega
  have n2 : ¬ 9223372036854775807 < (opL op).length + 1 + (toldL h).length := by omega
  have n3 : ¬ 9223372036854775807 < (opL op).length + 1 + (toldL h).length + 2 := by omega
  have hlen : ((Er.fault op h e).txt true).length = (fltL op h).length + (e.txt true).length := by simp [Er.txt]
  have hcat : (⟨(opL op).toArray⟩ : ByteArray) ++ ⟨#[32]⟩ ++ ⟨(toldL h).toArray⟩ ++ ⟨#[58, 32]⟩ = ⟨(fltL op h).toArray⟩ := by
    refine ba_of_list ?_
    simp [ByteArray.data_append, fltL]
  have HS := Lib.hid hs
  have HL := Lib.hid hlen
  have HX := Lib.hid hx
  have HG := Lib.hid hg
  have HBB := Lib.hid hB
  have HI := Lib.hid ih
  have HW := Lib.hid (show ∀ W, Below w.heap.size w W → Calls Tryz.prog 53 #[.pointer (some ⟨b, 0, none⟩), .string ⟨(fltL op h).toArray⟩] W fun r w2 => r = .returned (.tuple #[.int .i64 (⟨(fltL op h).toArray⟩ : ByteArray).size, .nilIface]) ∧ Hid (Bld B b (l ++ fltL op h) w2 ∧ Below B w w2) from fun w1 hb1 => (bwrite B b l ⟨(fltL op h).toArray⟩ w1 (hl.below hb1) (by rw [bsize]; have := HS.out; rw [HL.out] at this; omega) (by have := hb1.size; omega)).mono (by
    rintro r w2 ⟨rfl, hbl, hb2⟩
    exact ⟨rfl, Lib.hid ⟨by simpa using hbl, (hb1.mono (by omega)).trans hb2⟩⟩))
  have t1 := ta_flt_flt
  clear hl hg hop hh hs hlen hx hB ih l1 l2
  unfold WPostT Er.txt
  go_enter Tryz.func38, Tryz.ntmps38
  go_wp2_with fail
  go_region_with (first
    | (go_at_call 54; refine (HO.out _ (by first | assumption | exact below_drewOne)).mono ?_; rintro r w' ⟨rfl, hb⟩; have d0 := (hb.cell (p := ⟨k, 0, none⟩) HK).trans c0; have d1 := (hb.cell (p := ⟨k, 1, none⟩) HK).trans c1)
    | (go_at_call 55; refine (HH.out _ (by first | assumption | exact below_drewOne)).mono ?_; rintro r w' ⟨rfl, hb⟩; have d0 := (hb.cell (p := ⟨k, 0, none⟩) HK).trans c0; have d1 := (hb.cell (p := ⟨k, 1, none⟩) HK).trans c1)
    | (go_at_call 53; refine (HW.out _ (by assumption)).mono ?_; rintro r w' ⟨rfl, hb⟩))
  all_goals
    obtain ⟨hbl, hb2⟩ := hb.out
    have d2 := (hb2.cell (p := ⟨k, 2, none⟩) hk).trans c2
    have HJ := Lib.hid (HI.out x (l ++ fltL op h) _ B b (HG.out.keep HBB.out hb2) HBB.out (HX.out.keep hb2) hbl (by have := HS.out; rw [HL.out] at this; rw [List.length_append]; omega))
    go_wp2_with fail
    refine HJ.out.mono ?_
    rintro r w3 ⟨rfl, hbl3, hb3⟩
    go_wp2_with fail
    go_end0
    exact ⟨rfl, by rw [← List.append_assoc]; exact hbl3, hb2.trans hb3⟩
set_option maxHeartbeats 2000000 in
theorem writeT_pair (a c : Er)
    (iha : ∀ (v : Value) (l : List UInt8) (w : World) (B b : Nat), LaidAt w → LB B → EV B w a v → Bld B b l w → l.length + (a.txt true).length ≤ 140737488355328 →
      Calls Tryz.prog 38 #[.pointer (some ⟨b, 0, none⟩), v, .func (.func 23) #[] #[]] w (WPostT B b l a w))
    (ihc : ∀ (v : Value) (l : List UInt8) (w : World) (B b : Nat), LaidAt w → LB B → EV B w c v → Bld B b l w → l.length + (c.txt true).length ≤ 140737488355328 →
      Calls Tryz.prog 38 #[.pointer (some ⟨b, 0, none⟩), v, .func (.func 23) #[] #[]] w (WPostT B b l c w)) (v : Value) (l : List UInt8) (w : World) (B b : Nat) (hg : LaidAt w) (hB : LB B) (hv : EV B w (.pair a c) v) (hl : Bld B b l w) (hs : l.length + ((Er.pair a c).txt true).length ≤ 140737488355328) :
    Calls Tryz.prog 38 #[.pointer (some ⟨b, 0, none⟩), v, .func (.func 23) #[] #[]] w (WPostT B b l (.pair a c) w) := by
  obtain ⟨k, x, y, rfl, hk, c0, c1, hx, hy⟩ := hv
  have hlen : ((Er.pair a c).txt true).length = (a.txt true).length + (2 + (c.txt true).length) := by simp [Er.txt]; omega
  rw [hlen] at hs
  have HS := Lib.hid hs
  have HY := Lib.hid hy
  have HG := Lib.hid hg
  have HBB := Lib.hid hB
  have HA := Lib.hid (iha x l w B b hg hB hx hl (by omega))
  have HC := Lib.hid ihc
  have t1 := ta_par_flt
  have t2 := ta_par_plc
  have t3 := ta_par_par
  clear hl hg hs hlen hx hy hB iha ihc
  unfold WPostT Er.txt
  go_enter Tryz.func38, Tryz.ntmps38
  go_wp2_with fail
  refine HA.out.mono ?_
  rintro r w1 ⟨rfl, hbl, hb1⟩
  have hlt := hbl.lt
  have HW := Lib.hid (bwrite B b (l ++ a.txt true) ⟨#[59, 32]⟩ w1 hbl (by rw [List.length_append, show (⟨#[59, 32]⟩ : ByteArray).size = 2 from rfl]; have := HS.out; omega) (by omega))
  have d1 := (hb1.cell (p := ⟨k, 1, none⟩) hk).trans c1
  go_wp2_with fail
  refine HW.out.mono ?_
  rintro r w2 ⟨rfl, hbl2, hb2⟩
  have hb12 : Below B w w2 := hb1.trans hb2
  have e1 := (hb12.cell (p := ⟨k, 1, none⟩) hk).trans c1
  have HJ := Lib.hid (HC.out y (l ++ a.txt true ++ [59, 32]) w2 B b (HG.out.keep HBB.out hb12) HBB.out (HY.out.keep hb12) (by simpa using hbl2) (by have := HS.out; simp only [List.length_append, List.length_cons, List.length_nil]; omega))
  clear d1
  go_wp2_with fail
  refine HJ.out.mono ?_
  rintro r w3 ⟨rfl, hbl3, hb3⟩
  go_wp2_with fail
  go_end0
  exact ⟨rfl, by simpa using hbl3, hb12.trans hb3⟩
theorem writeT : ∀ (e : Er), e.ok → ∀ (v : Value) (l : List UInt8) (w : World) (B b : Nat), LaidAt w → LB B → EV B w e v → Bld B b l w → l.length + (e.txt true).length ≤ 140737488355328 →
    Calls Tryz.prog 38 #[.pointer (some ⟨b, 0, none⟩), v, .func (.func 23) #[] #[]] w (WPostT B b l e w) := by
  intro e
  induction e with
  | nil => intro _ v l w B b _ _ hv hl _; cases hv; exact writeT_nil l w B b hl
  | num n => intro hn v l w B b hg _ hv hl hs; cases hv; exact writeT_num n hn l w B b hg hl hs
  | odd s => intro _ v l w B b _ _ hv hl hs; cases hv; exact writeT_odd s l w B b hl hs
  | nF => intro _ v l w B b _ _ hv hl _; cases hv; exact writeT_nF l w B b hl
  | nP => intro _ v l w B b _ _ hv hl _; cases hv; exact writeT_nP l w B b hl
  | nQ => intro _ v l w B b _ _ hv hl _; cases hv; exact writeT_nQ l w B b hl
  | fault op h e ih => intro hk v l w B b hg hB hv hl hs; exact writeT_fault op h e hk.1 hk.2.1 (ih hk.2.2) v l w B b hg hB hv hl hs
  | place n e ih => intro hk v l w B b hg hB hv hl hs; exact writeT_place n e hk.1 (ih hk.2) v l w B b hg hB hv hl hs
  | pair a c iha ihc => intro hk v l w B b hg hB hv hl hs; exact writeT_pair a c (iha hk.1) (ihc hk.2) v l w B b hg hB hv hl hs
set_option maxHeartbeats 2000000 in
/-- The text of an error. -/
theorem toldT (e : Er) (he : e.ok) (v : Value) (w : World) (hg : LaidAt w) (hv : EV w.heap.size w e v) (hs : (e.txt true).length ≤ 140737488355328) :
    Calls Tryz.prog 22 #[v, .func (.func 23) #[] #[]] w fun r w' => r = .returned (.string ⟨(e.txt true).toArray⟩) ∧ Below w.heap.size w w' := by
  obtain ⟨W, hW⟩ : ∃ W, W = w.alloc (.cells #[.pointer none, .slice none 0 0] 72) := ⟨_, rfl⟩
  have hb : Below w.heap.size w W := by rw [hW]; exact (by repeat (first | exact Below.refl _ _ | (with_reducible assumption) | refine Below.drew ?_ | (refine Below.alloc ?_ (by first | exact Nat.le_refl _ | omega | (simp; done) | (simp; omega)) _) | (refine Below.setCell ?_ (by first | omega | (simp; done) | (simp; omega)) _)))
  have hbl : Bld w.heap.size w.heap.size [] W := by
    refine .inl ⟨Nat.le_refl _, .slice none 0 0, ?_, ⟨rfl, .inl ⟨rfl, rfl⟩⟩, by simp [Value.ownBlock]⟩
    rw [hW]; exact has_new w _ _ rfl
  have HR := Lib.hid (writeT e he v [] W w.heap.size w.heap.size (hg.below hb) hg.size (hv.keep hb) hbl (by simpa using hs))
  rw [hW] at HR
  have HB := Lib.hid hb
  clear hg hv hs hbl hb
  rw [hW] at HB
  clear hW W
  go_enter Tryz.func22, Tryz.ntmps22
  go_wp2_with fail
  refine HR.out.mono ?_
  rintro r w1 ⟨rfl, hbl1, hb1⟩
  have hsz := hbl1.lt
  have HT := Lib.hid (bstring _ _ _ w1 hbl1 (by omega))
  go_wp2_with fail
  refine HT.out.mono ?_
  rintro r w2 ⟨rfl, hb2⟩
  go_wp2_with fail
  go_ret
  exact ⟨rfl, (HB.out.trans hb1).trans hb2⟩
end Go.Proofs.YtlnamkplbikcjaaGreatDoor
