/- The document's own Die and Cross; no condition but those that each row names. -/
import Derived.Test.YtilbohjkkdkdiaaGRefB
namespace Go.Proofs.Ytilbohjkkdkdiaa
open Go.RowKit

set_option maxHeartbeats 2000000 in
/-- Die, whatever is asked. -/
theorem rdie_any (w : World) (v : Value) (f : Nat → Cl) (s : Int) (hG : Good f) (hc : Rc w v (lst f 0 64)) :
    Calls Try.prog 30 #[v, .int .i64 s] w (RAns w (lst (dieF f s) 0 64) (dieE f s)) := by
  have hw := die_way hG s
  generalize dieE f s = r at *
  generalize dieF f s = f' at *
  have HR := Lib.hid hc
  have h := hc.1
  clear hc
  have h64 := lst64 f
  cases hw with
  | no hh =>
    have HF := Lib.hid (rfind_no w v _ s h h64 (lst_out hG hh))
    generalize lst f 0 64 = L at *
    obtain ⟨p, cap, rfl, _⟩ := h
    go_enter Try.func30, Try.ntmps30
    go_wp2_with fail
    refine HF.out.mono ?_
    rintro e w1 ⟨rfl, rfl⟩
    go_wp2_with fail
    go_ret2
    exact ⟨_, rfl, HR.out, Below.refl _ _⟩
  | dying k a x hs hk hf ha =>
    subst hs
    obtain ⟨i, hi, he, hno, _, _⟩ := lst_at hG hk (by rw [hf]; exact ha)
    have HF := Lib.hid (rfind_at w v _ (k : Int) i h h64 hi (by rw [he, hf]) hno)
    have hi0 : decide ((i : Int) < 0) = false := decide_eq_false (by omega)
    rw [hf] at he
    clear hno hf
    generalize lst f 0 64 = L at *
    have hi' : (i : Int) < (L.length : Int) := by omega
    have hi2 : (0 : Int) ≤ (i : Int) := by omega
    obtain ⟨p, cap, rfl, _, hcc⟩ := h
    obtain ⟨b, off, rfl, c0, c1, c2, c3⟩ := hcc i hi
    rw [he] at c0 c1 c2 c3
    simp only at c0 c1 c2 c3
    clear hcc he
    go_enter Try.func30, Try.ntmps30
    go_wp2_with fail
    refine HF.out.mono ?_
    rintro e w1 ⟨rfl, rfl⟩
    go_wp2_with fail
    go_ret2
    exact ⟨_, rfl, HR.out, Below.refl _ _⟩
  | ok k a x hs hk hf ha ha2 hx1 hx2 =>
    subst hs
    obtain ⟨i, hi, he, hno, hset, _⟩ := lst_at hG hk (by rw [hf]; exact ha)
    have HF := Lib.hid (rfind_at w v _ (k : Int) i h h64 hi (by rw [he, hf]) hno)
    have HTW := Lib.hid (rtwin_any w v _ h)
    have hi0 : decide ((i : Int) < 0) = false := decide_eq_false (by omega)
    rw [hf] at he
    have HX := Lib.hid (cells4_d _ i hi true)
    have HSET := Lib.hid (hset ⟨k, a, x, true⟩ ha)
    rw [he] at HX
    simp only at HX
    clear hno hf hset
    generalize lst f 0 64 = L at *
    have hi' : (i : Int) < (L.length : Int) := by omega
    have hi2 : (0 : Int) ≤ (i : Int) := by omega
    obtain ⟨p, cap, rfl, _, hcc⟩ := h
    obtain ⟨b, off, rfl, c0, c1, c2, c3⟩ := hcc i hi
    rw [he] at c0 c1 c2 c3
    simp only at c0 c1 c2 c3
    clear hcc he
    go_enter Try.func30, Try.ntmps30
    go_wp2_with fail
    refine HF.out.mono ?_
    rintro e w1 ⟨rfl, rfl⟩
    go_wp2_with fail
    refine HTW.out.mono ?_
    rintro e w2 ⟨v2, rfl, ho2, hb2⟩
    obtain ⟨g, cp2, rfl, _, _⟩ := ho2.form (by omega)
    obtain ⟨⟨u, q0⟩, q1, q2, q3⟩ := own_at ho2 (i * 4 + 3) (by omega)
    have ho3 := own_cell (ys := cells4 (L.set i ⟨k, a, x, true⟩)) ho2 (i * 4 + 3) (.bool true) HX.out
    have HB3 := Lib.hid (hb2.setCell (p := ⟨g, i * 4 + 3, none⟩) q2 (.bool true))
    have hrc : Rc (w2.setCell ⟨g, i * 4 + 3, none⟩ (.bool true)) (.slice (some ⟨g, 0, none⟩) L.length cp2) (L.set i ⟨k, a, x, true⟩) := own_rc (by rw [List.length_set]; exact ho3) (by rw [List.length_set]; omega)
    rw [HSET.out] at hrc
    have HRC := Lib.hid hrc
    clear ho2 hb2 ho3 hrc
    go_wp2_with fail
    go_ret2
    exact ⟨_, rfl, HRC.out, HB3.out⟩

/-- What Cross answers. -/
def RAns3 (w : World) (L' : List Cl) (what n : Int) (e : Ending) (w' : World) : Prop := ∃ v', e = .returned (.tuple #[v', .int .i64 what, .int .i64 n]) ∧ Rc w' v' L' ∧ Below w.heap.size w w'
/-- The tail of a slice. -/
theorem src_tail {w : World} {b off cap : Nat} {L : List Cl} (h : Rd w (.slice (some ⟨b, off, none⟩) L.length cap) L) (i : Nat) (hi : i ≤ L.length) : Src4 w (.slice (some ⟨b, off + i * 4, none⟩) (L.length - i) (cap - i)) (L.length - i) (cells4 (L.drop i)) := by
  obtain ⟨p, c, e, _, hc⟩ := h
  cases e
  have hsub : Rd w (.slice (some ⟨b, off + i * 4, none⟩) (L.drop i).length (cap - i)) (L.drop i) := by
    refine ⟨_, _, rfl, by rw [List.length_drop]; omega, fun j hj => ⟨b, off + i * 4, rfl, ?_⟩⟩
    rw [List.length_drop] at hj
    obtain ⟨b', off', e, c0, c1, c2, c3⟩ := hc (i + j) (by omega)
    cases e
    rw [List.getElem_drop, show off + i * 4 + j * 4 = off + (i + j) * 4 from by omega]
    exact ⟨c0, c1, c2, c3⟩
  have := src_rd hsub
  rwa [List.length_drop] at this
theorem src_tail_if {w : World} {b off cap : Nat} {L : List Cl} (h : Rd w (.slice (some ⟨b, off, none⟩) L.length cap) L) (hn : L.length ≤ cap) (i : Nat) (hi : i ≤ L.length) : Src4 w (.slice (if cap = i then (some ⟨b, off, none⟩ : Option Addr) else some ⟨b, off + i * 4, none⟩) (L.length - i) (cap - i)) (L.length - i) (cells4 (L.drop i)) := by
  by_cases e : cap = i
  · rw [if_pos e, show L.length - i = 0 by omega, List.drop_of_length_le (by omega)]
    exact ⟨_, _, rfl, rfl, fun j y hy => by simp [cells4] at hy⟩
  · rw [if_neg e]; exact src_tail h i hi
theorem own_head {B : Nat} {w : World} {g cap : Nat} {L : List Cl} (h : w.ownsRow B RT 4 (.slice (some ⟨g, 0, none⟩) L.length cap) L.length (cells4 L)) (i : Nat) (hi : i ≤ L.length) : w.ownsRow B RT 4 (.slice (some ⟨g, 0, none⟩) i cap) i (cells4 (L.take i)) := by
  obtain ⟨cur, hr, hB, hn, hm, hl, ht⟩ := row_of_own h
  refine own_of_row hr hB (by omega) hm hl ?_
  rw [← cells4_take, ← ht, List.take_take, Nat.min_eq_left (Nat.mul_le_mul_right 4 hi)]

set_option maxHeartbeats 4000000 in
/-- Cross, whatever is asked. -/
theorem rcro_any (w : World) (v : Value) (f : Nat → Cl) (s : Int) (hG : Good f) (hc : Rc w v (lst f 0 64)) :
    Calls Try.prog 31 #[v, .int .i64 s] w (RAns3 w (lst (croF f s) 0 64) (croW f s) (croE f s)) := by
  have hw := cro_way hG s
  generalize croE f s = r at *
  generalize croW f s = what at *
  generalize croF f s = f' at *
  have HR := Lib.hid hc
  have h := hc.1
  clear hc
  have h64 := lst64 f
  cases hw with
  | no hh =>
    have HF := Lib.hid (rfind_no w v _ s h h64 (lst_out hG hh))
    generalize lst f 0 64 = L at *
    obtain ⟨p, cap, rfl, _⟩ := h
    go_enter Try.func31, Try.ntmps31
    go_wp2_with fail
    refine HF.out.mono ?_
    rintro e w1 ⟨rfl, rfl⟩
    go_wp2_with fail
    go_ret3
    exact ⟨_, rfl, HR.out, Below.refl _ _⟩
  | gone k a x hs hk hf ha =>
    subst hs
    obtain ⟨i, hi, he, hno, hset, hdel⟩ := lst_at hG hk (by rw [hf]; exact ha)
    have HF := Lib.hid (rfind_at w v _ (k : Int) i h h64 hi (by rw [he, hf]) hno)
    have HTW := Lib.hid (rtwin_any w v _ h)
    have hi0 : decide ((i : Int) < 0) = false := decide_eq_false (by omega)
    rw [hf] at he
    have HDEL := Lib.hid hdel
    clear hno hf hset hdel
    generalize lst f 0 64 = L at *
    have hi' : (i : Int) < (L.length : Int) := by omega
    have hi2 : (0 : Int) ≤ (i : Int) := by omega
    have hrd := h
    obtain ⟨p, cap, rfl, _, hcc⟩ := h
    obtain ⟨b, off, rfl, c0, c1, c2, c3⟩ := hcc i hi
    have hcap := (HR.out.2 _ _ _ rfl).1
    have HRD := Lib.hid hrd
    rw [he] at c0 c1 c2 c3
    simp only at c0 c1 c2 c3
    clear hcc he hrd
    go_enter Try.func31, Try.ntmps31
    go_wp2_with fail
    refine HF.out.mono ?_
    rintro e w1 ⟨rfl, rfl⟩
    go_wp2_with fail
    refine HTW.out.mono ?_
    rintro e w2 ⟨v2, rfl, ho2, hb2⟩
    obtain ⟨g, cp2, rfl, _, _⟩ := ho2.form (by omega)
    have d0 := (hb2.cell (cell_lt c0)).trans c0
    have d1 := (hb2.cell (cell_lt c1)).trans c1
    have d2 := (hb2.cell (cell_lt c2)).trans c2
    have d3 := (hb2.cell (cell_lt c3)).trans c3
    have HO2 := Lib.hid (own_head ho2 i (by omega))
    have HB2 := Lib.hid hb2
    have HRD2 := Lib.hid (HRD.out.below hb2)
    have ho2s := own_small ho2
    have hcp2 : L.length ≤ cp2 := by obtain ⟨_, _, e, hle⟩ := ho2s; cases e; exact hle
    have wr1 : IntKind.i64.wrap ((i : Int) + 1) = (i : Int) + 1 := IntWalk.i64_in _ (by omega)
    have z1 : (i : Int) ≤ (cp2 : Int) := by omega
    have z2 : (i : Int) + 1 ≤ (L.length : Int) := by omega
    have z3 : (L.length : Int) ≤ (cap : Int) := by omega
    have z4 : (0 : Int) ≤ (i : Int) + 1 := by omega
    have z5 : ((i : Int) + 1).toNat = i + 1 := by omega
    clear ho2 hb2 c0 c1 c2 c3 ho2s
    go_upto_region 6 with fail
    go_still_tail 7, (by kernel_rfl)
    all_goals
      change wpList _ _ _ _ _ w2.drew
      refine wpList_append_R rfl _ _ rfl w.heap.size (.slice (some ⟨g, 0, none⟩) i cp2) i (cells4 (L.take i)) rfl (show w2.drew.ownsRow _ _ _ _ _ _ from HO2.out) _ (L.length - (i + 1)) (cells4 (L.drop (i + 1))) rfl (show Src4 w2.drew _ _ _ from src_tail_if HRD2.out hcap (i + 1) (by omega)) (cells4_one _) (by omega) (show w.heap.size ≤ w2.drew.heap.size from HB2.out.size) ?_
      intro p3 c3 w3 ho hg _
      have hb3 := own_grow (W := w2.drew) HB2.out.drew (show w2.drew.ownsRow _ _ _ _ _ _ from HO2.out) hg
      have hlen : (L.take i ++ L.drop (i + 1)).length = i + (L.length - (i + 1)) := by simp; omega
      have hrc : Rc w3 (.slice p3 (i + (L.length - (i + 1))) c3) (L.take i ++ L.drop (i + 1)) := own_rc (by rw [hlen, cells4_append]; exact ho) (by rw [hlen]; omega)
      rw [HDEL.out] at hrc
      have HRC := Lib.hid hrc
      have HB3 := Lib.hid hb3
      clear ho hg hb3 hlen hrc
      go_wp2_with fail
      all_goals
        go_ret3
        exact ⟨_, rfl, HRC.out, HB3.out⟩
  | stays k a hs hk hf ha =>
    subst hs
    obtain ⟨i, hi, he, hno, hset, hdel⟩ := lst_at hG hk (by rw [hf]; exact ha)
    have HF := Lib.hid (rfind_at w v _ (k : Int) i h h64 hi (by rw [he, hf]) hno)
    have HTW := Lib.hid (rtwin_any w v _ h)
    have hi0 : decide ((i : Int) < 0) = false := decide_eq_false (by omega)
    rw [hf] at he
    clear hno hf hset hdel
    generalize lst f 0 64 = L at *
    have hi' : (i : Int) < (L.length : Int) := by omega
    have hi2 : (0 : Int) ≤ (i : Int) := by omega
    have hrd := h
    obtain ⟨p, cap, rfl, _, hcc⟩ := h
    obtain ⟨b, off, rfl, c0, c1, c2, c3⟩ := hcc i hi
    have hcap := (HR.out.2 _ _ _ rfl).1
    have HRD := Lib.hid hrd
    rw [he] at c0 c1 c2 c3
    simp only at c0 c1 c2 c3
    clear hcc he hrd
    go_enter Try.func31, Try.ntmps31
    go_wp2_with fail
    refine HF.out.mono ?_
    rintro e w1 ⟨rfl, rfl⟩
    go_wp2_with fail
    refine HTW.out.mono ?_
    rintro e w2 ⟨v2, rfl, ho2, hb2⟩
    obtain ⟨g, cp2, rfl, _, _⟩ := ho2.form (by omega)
    have d0 := (hb2.cell (cell_lt c0)).trans c0
    have d1 := (hb2.cell (cell_lt c1)).trans c1
    have d2 := (hb2.cell (cell_lt c2)).trans c2
    have d3 := (hb2.cell (cell_lt c3)).trans c3
    have hrc : Rc w2 (.slice (some ⟨g, 0, none⟩) L.length cp2) L := own_rc ho2 (by omega)
    have HRC := Lib.hid hrc
    have HB2 := Lib.hid hb2
    clear ho2 hb2 c0 c1 c2 c3 hrc
    go_wp2_with fail
    go_ret3
    exact ⟨_, rfl, HRC.out, HB2.out⟩
  | switched k a x hs hk hf ha hx hx2 =>
    subst hs
    obtain ⟨i, hi, he, hno, hset, hdel⟩ := lst_at hG hk (by rw [hf]; exact ha)
    have HF := Lib.hid (rfind_at w v _ (k : Int) i h h64 hi (by rw [he, hf]) hno)
    have HTW := Lib.hid (rtwin_any w v _ h)
    have hi0 : decide ((i : Int) < 0) = false := decide_eq_false (by omega)
    rw [hf] at he
    have HX := Lib.hid (cells4_nx _ i hi x 0)
    have HSET := Lib.hid (hset ⟨k, x, 0, false⟩ hx)
    rw [he] at HX
    simp only at HX
    clear hno hf hset hdel
    generalize lst f 0 64 = L at *
    have hi' : (i : Int) < (L.length : Int) := by omega
    have hi2 : (0 : Int) ≤ (i : Int) := by omega
    have hrd := h
    obtain ⟨p, cap, rfl, _, hcc⟩ := h
    obtain ⟨b, off, rfl, c0, c1, c2, c3⟩ := hcc i hi
    have hcap := (HR.out.2 _ _ _ rfl).1
    have HRD := Lib.hid hrd
    rw [he] at c0 c1 c2 c3
    simp only at c0 c1 c2 c3
    clear hcc he hrd
    go_enter Try.func31, Try.ntmps31
    go_wp2_with fail
    refine HF.out.mono ?_
    rintro e w1 ⟨rfl, rfl⟩
    go_wp2_with fail
    refine HTW.out.mono ?_
    rintro e w2 ⟨v2, rfl, ho2, hb2⟩
    obtain ⟨g, cp2, rfl, _, _⟩ := ho2.form (by omega)
    have d0 := (hb2.cell (cell_lt c0)).trans c0
    have d1 := (hb2.cell (cell_lt c1)).trans c1
    have d2 := (hb2.cell (cell_lt c2)).trans c2
    have d3 := (hb2.cell (cell_lt c3)).trans c3
    obtain ⟨⟨u, q0⟩, q1, q2, q3⟩ := own_at ho2 (i * 4 + 1) (by omega)
    obtain ⟨⟨u2, r0⟩, r1, r2, r3⟩ := own_at ho2 (i * 4 + 2) (by omega)
    have y0 : (x != 0) = true := by simp; omega
    have ho3 := own_cell (ys := cells4 (L.set i ⟨k, x, 0, false⟩)) (own_cell (ys := (cells4 L).set (i * 4 + 1) (.int .i64 x)) ho2 (i * 4 + 1) (.int .i64 x) rfl) (i * 4 + 2) (.int .i64 0) HX.out
    have HB3 := Lib.hid ((hb2.setCell (p := ⟨g, i * 4 + 1, none⟩) q2 (.int .i64 x)).setCell (p := ⟨g, i * 4 + 2, none⟩) q2 (.int .i64 0))
    have hrc : Rc ((w2.setCell ⟨g, i * 4 + 1, none⟩ (.int .i64 x)).setCell ⟨g, i * 4 + 2, none⟩ (.int .i64 0)) (.slice (some ⟨g, 0, none⟩) L.length cp2) (L.set i ⟨k, x, 0, false⟩) := own_rc (by rw [List.length_set]; exact ho3) (by rw [List.length_set]; omega)
    rw [HSET.out] at hrc
    have HRC := Lib.hid hrc
    clear ho2 hb2 ho3 hrc c0 c1 c2 c3
    go_wp2_with fail
    go_ret3
    exact ⟨_, rfl, HRC.out, HB3.out⟩
end Go.Proofs.Ytilbohjkkdkdiaa
