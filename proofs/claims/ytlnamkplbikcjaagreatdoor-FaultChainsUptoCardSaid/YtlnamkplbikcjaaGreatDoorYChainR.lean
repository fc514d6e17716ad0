/- The document's Chain: the texts of all links, 64 at most; no condition but that a text is of 2^40 bytes at most. -/
import Derived.Test.YtlnamkplbikcjaaGreatDoorYTextS
import Derived.Test.YtlnamkplbikcjaaGreatDoorYChain
namespace Go.Proofs.YtlnamkplbikcjaaGreatDoor
open Go.RowKit Ft

theorem has_setR {W : World} {g : Nat} {cs : Array Value} {T : TypeId} (h : Has W g (.cells cs T (0, 0))) (j : Nat) (u : Value) : Has (W.setCell ⟨g, j, none⟩ u) g (.cells (cs.setIfInBounds j u) T (0, 0)) := heap_setCell_same W g j cs T u h
theorem six_has {W : World} {g : Nat} {T : TypeId} {c0 c1 c2 c3 c4 c5 : Value} (h : Has W g (.cells #[c0, c1, c2, c3, c4, c5] T (0, 0))) (v0 v1 v2 v3 v4 v5 : Value) :
    Has ((((((W.setCell ⟨g, 0, none⟩ v0).setCell ⟨g, 1, none⟩ v1).setCell ⟨g, 2, none⟩ v2).setCell ⟨g, 3, none⟩ v3).setCell ⟨g, 4, none⟩ v4).setCell ⟨g, 5, none⟩ v5) g (.cells #[v0, v1, v2, v3, v4, v5] T (0, 0)) :=
  has_setR (has_setR (has_setR (has_setR (has_setR (has_setR h 0 v0) 1 v1) 2 v2) 3 v3) 4 v4) 5 v5
theorem six_own {e B n : Nat} {W : World} {v : Value} {xs : List Value} {g : Nat} (h : W.ownsRow B e 1 v n xs) (hp : v.ownBlock ≠ some g) (v0 v1 v2 v3 v4 v5 : Value) :
    ((((((W.setCell ⟨g, 0, none⟩ v0).setCell ⟨g, 1, none⟩ v1).setCell ⟨g, 2, none⟩ v2).setCell ⟨g, 3, none⟩ v3).setCell ⟨g, 4, none⟩ v4).setCell ⟨g, 5, none⟩ v5).ownsRow B e 1 v n xs :=
  own_other (own_other (own_other (own_other (own_other (own_other h ⟨g, 0, none⟩ v0 hp) ⟨g, 1, none⟩ v1 hp) ⟨g, 2, none⟩ v2 hp) ⟨g, 3, none⟩ v3 hp) ⟨g, 4, none⟩ v4 hp) ⟨g, 5, none⟩ v5 hp
theorem six_below {w W : World} {g : Nat} (h : Below w.heap.size w W) (hg : w.heap.size ≤ g) (v0 v1 v2 v3 v4 v5 : Value) :
    Below w.heap.size w ((((((W.setCell ⟨g, 0, none⟩ v0).setCell ⟨g, 1, none⟩ v1).setCell ⟨g, 2, none⟩ v2).setCell ⟨g, 3, none⟩ v3).setCell ⟨g, 4, none⟩ v4).setCell ⟨g, 5, none⟩ v5) :=
  (((((h.setCell (p := ⟨g, 0, none⟩) hg v0).setCell (p := ⟨g, 1, none⟩) hg v1).setCell (p := ⟨g, 2, none⟩) hg v2).setCell (p := ⟨g, 3, none⟩) hg v3).setCell (p := ⟨g, 4, none⟩) hg v4).setCell (p := ⟨g, 5, none⟩) hg v5
theorem own_ne {e B z n : Nat} {W : World} {v : Value} {xs : List Value} {g : Nat} {cs : Array Value} {T : TypeId} (h : W.ownsRow B e z v n xs) (hg : Has W g (.cells cs T (0, 0))) (hT : T ≠ e) : v.ownBlock ≠ some g := by
  rcases h.2 with ⟨rfl, _⟩ | ⟨g', cap, cur, rfl, _, h3, _⟩
  · simp [Value.ownBlock]
  · intro h
    simp only [Value.ownBlock, Option.some.injEq] at h
    subst h
    unfold Has at hg
    rw [h3] at hg
    simp only [Option.some.injEq, Obj.cells.injEq] at hg
    exact hT hg.2.1.symm
/-- The cells of a tree. -/
abbrev bxC (k op h n : Int) (t : ByteArray) (p : Option Addr) (m cap : Nat) : Array Value := #[.int .i64 k, .int .i64 op, .int .i64 h, .int .i64 n, .string t, .slice p m cap]
theorem has_underR {W W' : World} {o : Obj} {g : Nat} (h : Has W g o) (hb : Below W.heap.size W W') : Has W' g o := (hb.block g (has_lt h)).trans h
theorem toE_inner (d : Dt) : d.toE.inner = if d.k = 2 ∨ d.k = 3 then d.kid0.toE else .nil := by
  rw [Dt.toE_eq d]
  by_cases k1 : d.k = 1
  · rw [if_pos k1, if_neg (show ¬ (d.k = 2 ∨ d.k = 3) by omega)]; rfl
  rw [if_neg k1]
  by_cases k2 : d.k = 2
  · rw [if_pos k2, if_pos (.inl k2)]; rfl
  rw [if_neg k2]
  by_cases k3 : d.k = 3
  · rw [if_pos k3, if_pos (.inr k3)]; rfl
  rw [if_neg k3, if_neg (show ¬ (d.k = 2 ∨ d.k = 3) by omega)]
  repeat' split
  all_goals rfl
theorem toE_is_nil (d : Dt) (h : ¬ (1 ≤ d.k ∧ d.k ≤ 8)) : d.toE = .nil := by
  rw [Dt.toE_eq d, if_neg (by omega), if_neg (by omega), if_neg (by omega), if_neg (by omega), if_neg (by omega), if_neg (by omega), if_neg (by omega), if_neg (by omega)]
theorem toE_not_nil (d : Dt) (h : 1 ≤ d.k ∧ d.k ≤ 8) : d.toE ≠ .nil := by
  rw [Dt.toE_eq d]
  have hc : d.k = 1 ∨ d.k = 2 ∨ d.k = 3 ∨ d.k = 4 ∨ d.k = 5 ∨ d.k = 6 ∨ d.k = 7 ∨ d.k = 8 := by omega
  rcases hc with h | h | h | h | h | h | h | h <;> rw [h] <;> (intro e; cases e)
set_option maxHeartbeats 4000000 in
set_option maxRecDepth 100000 in
theorem rchain_any (d : Dt) (hok : d.ok) (hlen : (d.toE.txt false).length ≤ 1099511627776) (w0 : World) (v : Value) (w : World) (hb0 : Below w0.heap.size w0 w) (hv : DV w0 d v) :
    Calls Tryz.prog 13 #[v] w (ChPost w (d.toE.chain 64)) := by
  obtain ⟨i0, hi, hz0, hz1, hz2⟩ := info_parts infoS
  obtain ⟨p, cap, rfl, hm, h0, h1⟩ := hv.parts
  have HV := Lib.hid hv
  have HO := Lib.hid hok
  have HS := Lib.hid hlen
  have HB0 := Lib.hid hb0
  clear hv h0 h1 hok hlen hb0
  go_enter Tryz.func13, Tryz.ntmps13
  go_wp2_with fail
  go_loopg [3] 64 (fun kx sv wr => ∃ (e' : Dt) (R : List (List UInt8)) (q : Option Addr) (c : Nat) (pp : Option Addr) (cc : Nat), kx + R.length = 64 ∧ sv = .slice q R.length c ∧ Hid (d.toE.chain 64 = R ++ e'.toE.chain kx) ∧ Hid e'.ok ∧ Hid ((e'.toE.txt false).length ≤ 1099511627776) ∧ Hid (DV w0 e' (.agg (bxC e'.k e'.op e'.h e'.n e'.t pp e'.m cc))) ∧ Hid (Has wr w.heap.size (.cells (bxC e'.k e'.op e'.h e'.n e'.t pp e'.m cc) 25)) ∧ Hid (wr.ownsRow w.heap.size 9 1 (.slice q R.length c) R.length (strs R)) ∧ Hid (Below w.heap.size w wr))
  case atStart => exact ⟨d, [], none, 0, p, cap, rfl, rfl, Lib.hid rfl, HO, HS, HV, Lib.hid (has_new w _ _ rfl), Lib.hid (World.ownsRow_nil _ _ _ _), Lib.hid (by repeat (first | exact Below.refl _ _ | (with_reducible assumption) | refine Below.drew ?_ | (refine Below.alloc ?_ (by first | exact Nat.le_refl _ | omega | (simp; done) | (simp; omega)) _) | (refine Below.setCell ?_ (by first | omega | (simp; done) | (simp; omega)) _)))⟩
  case round =>
    obtain ⟨e', R, q, c, pp, cc, hk, rfl, hc, ho, hl, hdv, hbx, hown, hb⟩ := hrel
    have hsz := hb.out.size
    have dd := fun j => has_cell hbx.out j
    have d0 := dd 0; have d1 := dd 1; have d2 := dd 2; have d3 := dd 3; have d4 := dd 4; have d5 := dd 5
    simp only [List.getElem?_toArray, List.getElem?_cons_zero, List.getElem?_cons_succ] at d0 d1 d2 d3 d4 d5
    clear dd
    by_cases hk0 : gk = 0
    · have HR := Lib.hid (show d.toE.chain 64 = R by rw [hc.out, hk0]; simp [Er.chain])
      have h64 : R.length = 64 := by omega
      have h64' : ¬ ((R.length : Int) < 64) := by omega
      go_wp2_with fail
      go_ret
      refine ⟨q, c, ?_, ?_, hb.out⟩
      · rw [HR.out, h64]; rfl
      · rw [HR.out]; exact hown.out
    · obtain ⟨g', rfl⟩ : ∃ g', gk = g' + 1 := ⟨gk - 1, by omega⟩
      have h64 : ((R.length : Int) < 64) := by omega
      clear hk0
      by_cases hkk : 1 ≤ e'.k ∧ e'.k ≤ 8
      · have hk1 := hkk.1
        have hk8 := hkk.2
        have HT := Lib.hid (rText16 e' ho.out hl.out _ wr (DV.below (bnext HB0.out hb.out) hdv.out))
        have HNn := Lib.hid (toE_not_nil e' hkk)
        clear hkk
        have HIn := Lib.hid (fun W (hW : Below w.heap.size w W) => rin0 e' _ w0 W (bnext HB0.out hW) hdv.out)
        have HInn := Lib.hid (toE_inner e')
        have HOk := Lib.hid (Dt.ok_kid0 ho.out)
        have HLn := Lib.hid (fun (h : e'.k = 2 ∨ e'.k = 3) => Nat.le_trans (txt_kid0 e' false (by omega)) hl.out)
        generalize e'.k = k at *; generalize e'.op = op at *; generalize e'.h = h at *; generalize e'.n = n at *; generalize e'.t = t at *; generalize e'.m = m at *
        go_wp2_with fail
        refine HT.out.mono ?_
        rintro r w1 ⟨rfl, hb1⟩
        have hbw := bnext hb.out hb1
        have hown1 := own_under hown.out hb1
        have hbx1 := has_underR hbx.out hb1
        go_wp2_with (at_builtin; refine wpList_append_lies _ rfl _ _ 33 rfl w.heap.size 9 i0 (.string ⟨#[]⟩) 1 16 Tryz.underlying33 hi hz0 hz1 hz2 rfl (by decide) _ _ _ rfl (hown1.alloc _) ⟨w1.heap.size, 0, none⟩ 1 1 [.string ⟨(e'.toE.txt false).toArray⟩] rfl rfl (one_cell w1 _ _) (by intro u hu; simp at hu; subst hu; rfl) (by decide) (by unfold maxLen; omega) (by omega) (by have := hbw.size; simp; omega) (w1.heap.size + 1) (by simp) ?_)
        intro g3 c3 w3 hown3 hgrow3 hat3 hlt3
        have hne1 := own_ne hown1 hbx1 (by decide)
        have hbx3 : Has w3 w.heap.size _ := (hgrow3.block w.heap.size (has_lt (has_old hbx1 _)) (fun e => hne1 e.symm)).trans (has_old hbx1 _)
        have hb3 : Below w.heap.size w w3 := (hbw.alloc hbw.size _).grown hgrow3 (by have := hbw.size; simp; omega) (fun k hk => (hown1.lt k hk).1)
        have HOW := Lib.hid (show w3.ownsRow w.heap.size 9 1 (.slice (some ⟨g3, 0, none⟩) (R ++ [e'.toE.txt false]).length c3) (R ++ [e'.toE.txt false]).length (strs (R ++ [e'.toE.txt false])) by
          rw [List.length_append]
          simpa [strs] using hown3)
        have HB3 := Lib.hid hb3
        have z0 := has_cell hbx3 0; have z1 := has_cell hbx3 1; have z2 := has_cell hbx3 2; have z3 := has_cell hbx3 3; have z4 := has_cell hbx3 4; have z5 := has_cell hbx3 5
        simp only [List.getElem?_toArray, List.getElem?_cons_zero, List.getElem?_cons_succ] at z0 z1 z2 z3 z4 z5
        clear hown1 hown3 hgrow3 hat3 hlt3 hbw hbx1 hne1 d0 d1 d2 d3 d4 d5
        by_cases k2 : k = 2
        · have h23 : k = 2 ∨ k = 3 := .inl k2
          have HII := Lib.hid (HIn.out w3 hb3)
          have HR := Lib.hid (show d.toE.chain 64 = (R ++ [e'.toE.txt false]) ++ e'.kid0.toE.chain g' by rw [hc.out, chain_step g' HNn.out, HInn.out, if_pos h23]; simp)
          have HLL := Lib.hid (HLn.out h23)
          subst k2
          clear h23
          go_wp2_with fail
          refine HII.out.mono ?_
          rintro r w4 ⟨x, rfl, hx, hb4⟩
          have HX := Lib.hid hx
          obtain ⟨p5, cap5, rfl, _⟩ := hx.parts
          have hbx4 := has_underR hbx3 hb4
          have HOW4 := Lib.hid (six_own (own_under HOW.out hb4) (own_ne (own_under HOW.out hb4) hbx4 (by decide)) (.int .i64 e'.kid0.k) (.int .i64 e'.kid0.op) (.int .i64 e'.kid0.h) (.int .i64 e'.kid0.n) (.string e'.kid0.t) (.slice p5 e'.kid0.m cap5))
          have HBX4 := Lib.hid (six_has hbx4 (.int .i64 e'.kid0.k) (.int .i64 e'.kid0.op) (.int .i64 e'.kid0.h) (.int .i64 e'.kid0.n) (.string e'.kid0.t) (.slice p5 e'.kid0.m cap5))
          have HB4 := Lib.hid (six_below (g := w.heap.size) (bnext HB3.out hb4) (Nat.le_refl _) (.int .i64 e'.kid0.k) (.int .i64 e'.kid0.op) (.int .i64 e'.kid0.h) (.int .i64 e'.kid0.n) (.string e'.kid0.t) (.slice p5 e'.kid0.m cap5))
          have y0 := has_cell hbx4 0; have y1 := has_cell hbx4 1; have y2 := has_cell hbx4 2; have y3 := has_cell hbx4 3; have y4 := has_cell hbx4 4; have y5 := has_cell hbx4 5
          simp only [List.getElem?_toArray, List.getElem?_cons_zero, List.getElem?_cons_succ] at y0 y1 y2 y3 y4 y5
          have f0 := has_free hbx4 0; have f1 := has_free hbx4 1; have f2 := has_free hbx4 2; have f3 := has_free hbx4 3; have f4 := has_free hbx4 4; have f5 := has_free hbx4 5
          clear hx hb4 hbx4 hbx3 z0 z1 z2 z3 z4 z5 hb3
          go_wp2_with fail
          go_roundg g'
          case measure => omega
          case rel => exact ⟨e'.kid0, R ++ [e'.toE.txt false], some ⟨g3, 0, none⟩, c3, p5, cap5, by simp; omega, by simp, HR, HOk, HLL, HX, HBX4, HOW4, HB4⟩
        by_cases k3 : k = 3
        · have h23 : k = 2 ∨ k = 3 := .inr k3
          have HII := Lib.hid (HIn.out w3 hb3)
          have HR := Lib.hid (show d.toE.chain 64 = (R ++ [e'.toE.txt false]) ++ e'.kid0.toE.chain g' by rw [hc.out, chain_step g' HNn.out, HInn.out, if_pos h23]; simp)
          have HLL := Lib.hid (HLn.out h23)
          subst k3
          clear h23
          go_wp2_with fail
          refine HII.out.mono ?_
          rintro r w4 ⟨x, rfl, hx, hb4⟩
          have HX := Lib.hid hx
          obtain ⟨p5, cap5, rfl, _⟩ := hx.parts
          have hbx4 := has_underR hbx3 hb4
          have HOW4 := Lib.hid (six_own (own_under HOW.out hb4) (own_ne (own_under HOW.out hb4) hbx4 (by decide)) (.int .i64 e'.kid0.k) (.int .i64 e'.kid0.op) (.int .i64 e'.kid0.h) (.int .i64 e'.kid0.n) (.string e'.kid0.t) (.slice p5 e'.kid0.m cap5))
          have HBX4 := Lib.hid (six_has hbx4 (.int .i64 e'.kid0.k) (.int .i64 e'.kid0.op) (.int .i64 e'.kid0.h) (.int .i64 e'.kid0.n) (.string e'.kid0.t) (.slice p5 e'.kid0.m cap5))
          have HB4 := Lib.hid (six_below (g := w.heap.size) (bnext HB3.out hb4) (Nat.le_refl _) (.int .i64 e'.kid0.k) (.int .i64 e'.kid0.op) (.int .i64 e'.kid0.h) (.int .i64 e'.kid0.n) (.string e'.kid0.t) (.slice p5 e'.kid0.m cap5))
          have y0 := has_cell hbx4 0; have y1 := has_cell hbx4 1; have y2 := has_cell hbx4 2; have y3 := has_cell hbx4 3; have y4 := has_cell hbx4 4; have y5 := has_cell hbx4 5
          simp only [List.getElem?_toArray, List.getElem?_cons_zero, List.getElem?_cons_succ] at y0 y1 y2 y3 y4 y5
          have f0 := has_free hbx4 0; have f1 := has_free hbx4 1; have f2 := has_free hbx4 2; have f3 := has_free hbx4 3; have f4 := has_free hbx4 4; have f5 := has_free hbx4 5
          clear hx hb4 hbx4 hbx3 z0 z1 z2 z3 z4 z5 hb3
          go_wp2_with fail
          go_roundg g'
          case measure => omega
          case rel => exact ⟨e'.kid0, R ++ [e'.toE.txt false], some ⟨g3, 0, none⟩, c3, p5, cap5, by simp; omega, by simp, HR, HOk, HLL, HX, HBX4, HOW4, HB4⟩
        have HR := Lib.hid (show d.toE.chain 64 = R ++ [e'.toE.txt false] by rw [hc.out, chain_step g' HNn.out, HInn.out, if_neg (show ¬ (k = 2 ∨ k = 3) by omega), chain_nil])
        have q2 : (k == 2) = false := beq_eq_false_iff_ne.2 k2
        have q3 : (k == 3) = false := beq_eq_false_iff_ne.2 k3
        clear k2 k3 hbx3
        go_wp2_with fail
        go_ret
        refine ⟨some ⟨g3, 0, none⟩, c3, ?_, ?_, HB3.out⟩
        · rw [HR.out, List.length_append]; rfl
        · rw [HR.out]; exact HOW.out
      · have HR := Lib.hid (show d.toE.chain 64 = R by rw [hc.out, toE_is_nil e' hkk, chain_nil, List.append_nil])
        generalize e'.k = k at *
        by_cases hk1 : 1 ≤ k
        · have hk8 : ¬ k ≤ 8 := fun h => hkk ⟨hk1, h⟩
          clear hkk
          go_wp2_with fail
          go_ret
          refine ⟨q, c, ?_, ?_, hb.out⟩
          · rw [HR.out]; rfl
          · rw [HR.out]; exact hown.out
        · clear hkk
          go_wp2_with fail
          go_ret
          refine ⟨q, c, ?_, ?_, hb.out⟩
          · rw [HR.out]; rfl
          · rw [HR.out]; exact hown.out
end Go.Proofs.YtlnamkplbikcjaaGreatDoor
