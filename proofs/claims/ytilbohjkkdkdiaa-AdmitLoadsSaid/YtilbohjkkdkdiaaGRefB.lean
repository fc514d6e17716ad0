/- The document's own Resize, Die, Cross, Room; no condition but those that each row names. -/
import Derived.Test.YtilbohjkkdkdiaaGRefAdd
import Derived.StillTailTactics
import Derived.Deep.CutBlock
import Derived.Deep.CutRange
import Derived.Deep.DeepCutAuto
namespace Go.Proofs.Ytilbohjkkdkdiaa
open Go.RowKit

theorem set_same {α : Type} (l : List α) (i : Nat) (v : α) (h : l[i]? = some v) : l.set i v = l := by
  apply List.ext_getElem?
  intro j
  rw [List.getElem?_set]
  by_cases e : i = j
  · subst e
    rw [if_pos rfl, h]
    have := (List.getElem?_eq_some_iff.1 h).1
    simp [this]
  · rw [if_neg e]
/-- One cell of a row of claims. -/
theorem own_cell {B : Nat} {w : World} {g cap n : Nat} {xs ys : List Value} (h : w.ownsRow B RT 4 (.slice (some ⟨g, 0, none⟩) n cap) n xs) (o : Nat) (v : Value) (hy : ys = xs.set o v) : (w.setCell ⟨g, o, none⟩ v).ownsRow B RT 4 (.slice (some ⟨g, 0, none⟩) n cap) n ys := by
  obtain ⟨cur, hr, hB, hn, hm, hl, ht⟩ := row_of_own h
  have hr2 : Row RT (w.setCell ⟨g, o, none⟩ v) g (cur.set o v) := by
    unfold Row
    rw [heap_setCell_same _ _ _ _ _ _ hr]
    simp
  exact own_of_row hr2 hB hn hm (by simpa using hl) (by rw [List.take_set, ht, hy])
theorem own_at {B : Nat} {w : World} {g cap n : Nat} {xs : List Value} (h : w.ownsRow B RT 4 (.slice (some ⟨g, 0, none⟩) n cap) n xs) (o : Nat) (ho : o < n * 4) : (∃ u, w.cell? ⟨g, o, none⟩ = some u) ∧ w.frozen? ⟨g, o, none⟩ = false ∧ B ≤ g ∧ g < w.heap.size := by
  obtain ⟨cur, hr, hB, hn, hm, hl, ht⟩ := row_of_own h
  have : o < cur.length := by rw [hl]; exact Nat.lt_of_lt_of_le ho (Nat.mul_le_mul_right 4 hn)
  exact ⟨⟨_, (hr.cell o).trans (List.getElem?_eq_getElem this)⟩, hr.free o, hB, hr.lt⟩
theorem cells4_x (L : List Cl) (i : Nat) (h : i < L.length) (x : Int) : cells4 (L.set i ⟨L[i].s, L[i].n, x, L[i].d⟩) = (cells4 L).set (i * 4 + 2) (.int .i64 x) := by
  obtain ⟨c0, c1, c2, c3⟩ := cells4_at L i h
  rw [cells4_set]
  simp only
  rw [set_same _ _ _ c0, set_same _ _ _ c1]
  refine set_same _ _ _ ?_
  rw [List.getElem?_set_ne (by omega)]; exact c3
theorem cells4_d (L : List Cl) (i : Nat) (h : i < L.length) (d : Bool) : cells4 (L.set i ⟨L[i].s, L[i].n, L[i].x, d⟩) = (cells4 L).set (i * 4 + 3) (.bool d) := by
  obtain ⟨c0, c1, c2, c3⟩ := cells4_at L i h
  rw [cells4_set]
  simp only
  rw [set_same _ _ _ c0, set_same _ _ _ c1, set_same _ _ _ c2]
theorem cells4_nx (L : List Cl) (i : Nat) (h : i < L.length) (n x : Int) : cells4 (L.set i ⟨L[i].s, n, x, L[i].d⟩) = ((cells4 L).set (i * 4 + 1) (.int .i64 n)).set (i * 4 + 2) (.int .i64 x) := by
  obtain ⟨c0, c1, c2, c3⟩ := cells4_at L i h
  rw [cells4_set]
  simp only
  rw [set_same _ _ _ c0]
  refine set_same _ _ _ ?_
  rw [List.getElem?_set_ne (by omega), List.getElem?_set_ne (by omega)]; exact c3
theorem lsum_set : ∀ (L : List Cl) (i : Nat) (h : i < L.length) (c : Cl), lsum (L.set i c) = lsum L - cnt L[i] + cnt c
  | x :: r, 0, _, c => by simp only [List.set_cons_zero, lsum, List.getElem_cons_zero]; omega
  | x :: r, i + 1, h, c => by
    have ih := lsum_set r i (by simpa using h) c
    simp only [List.set_cons_succ, lsum, List.getElem_cons_succ, ih]; omega
theorem Sml.set {L : List Cl} (h : Sml L) (i : Nat) (c : Cl) (h0 : 0 ≤ cnt c) (h1 : cnt c ≤ 1048576) : Sml (L.set i c) :=
  ⟨by rw [List.length_set]; exact h.len, fun x hx => by
    rcases List.mem_or_eq_of_mem_set hx with k | rfl
    · exact h.each x k
    · exact ⟨h0, h1⟩⟩

set_option maxHeartbeats 2000000 in
/-- Resize, whatever is asked. -/
theorem rres_any (w : World) (v : Value) (f : Nat → Cl) (s n : Int) (hG : Good f) (hc : Rc w v (lst f 0 64)) :
    Calls Try.prog 29 #[v, .int .i64 s, .int .i64 n] w (RAns w (lst (resF f s n) 0 64) (resE f s n)) := by
  have hw := res_way hG s n
  generalize resE f s n = r at *
  generalize resF f s n = f' at *
  have HR := Lib.hid hc
  have h := hc.1
  clear hc
  have hls := lst_sml hG
  have h64 := lst64 f
  have hsum := hG.lsum 64 (by omega)
  cases hw with
  | no hh =>
    have HF := Lib.hid (rfind_no w v _ s h h64 (lst_out hG hh))
    generalize lst f 0 64 = L at *
    obtain ⟨p, cap, rfl, _⟩ := h
    go_enter Try.func29, Try.ntmps29
    go_wp2_with fail
    refine HF.out.mono ?_
    rintro e w1 ⟨rfl, rfl⟩
    go_wp2_with fail
    go_ret2
    exact ⟨_, rfl, HR.out, Below.refl _ _⟩
  | dying k a x hs hk hf ha =>
    subst hs
    obtain ⟨i, hi, he, hno, _, _⟩ := lst_at hG hk (by rw [hf]; exact ha)
    have HF := Lib.hid (rfind_at w v _ (k : Int) i h h64 hi (by rw [he, hf]) hno)
    have hi0 : decide ((i : Int) < 0) = false := decide_eq_false (by omega)
    rw [hf] at he
    clear hno hf
    generalize lst f 0 64 = L at *
    have hi' : (i : Int) < (L.length : Int) := by omega
    have hi2 : (0 : Int) ≤ (i : Int) := by omega
    obtain ⟨p, cap, rfl, _, hcc⟩ := h
    obtain ⟨b, off, rfl, c0, c1, c2, c3⟩ := hcc i hi
    rw [he] at c0 c1 c2 c3
    simp only at c0 c1 c2 c3
    clear hcc he
    go_enter Try.func29, Try.ntmps29
    go_wp2_with fail
    refine HF.out.mono ?_
    rintro e w1 ⟨rfl, rfl⟩
    go_wp2_with fail
    go_ret2
    exact ⟨_, rfl, HR.out, Below.refl _ _⟩
  | range k a x hs hk hf ha hn =>
    subst hs
    obtain ⟨i, hi, he, hno, _, _⟩ := lst_at hG hk (by rw [hf]; exact ha)
    have HF := Lib.hid (rfind_at w v _ (k : Int) i h h64 hi (by rw [he, hf]) hno)
    have HH := Lib.hid fun w => rshare_no n w hn
    have hi0 : decide ((i : Int) < 0) = false := decide_eq_false (by omega)
    rw [hf] at he
    clear hno hf hn
    generalize lst f 0 64 = L at *
    have hi' : (i : Int) < (L.length : Int) := by omega
    have hi2 : (0 : Int) ≤ (i : Int) := by omega
    obtain ⟨p, cap, rfl, _, hcc⟩ := h
    obtain ⟨b, off, rfl, c0, c1, c2, c3⟩ := hcc i hi
    rw [he] at c0 c1 c2 c3
    simp only at c0 c1 c2 c3
    clear hcc he
    go_enter Try.func29, Try.ntmps29
    go_wp2_with fail
    refine HF.out.mono ?_
    rintro e w1 ⟨rfl, rfl⟩
    go_wp2_with fail
    refine (HH.out _).mono ?_
    rintro e w1 ⟨rfl, rfl⟩
    go_wp2_with fail
    go_ret2
    exact ⟨_, rfl, HR.out, Below.refl _ _⟩
  | over k a x hs hk hf ha ha2 h1 h2 ho =>
    subst hs
    obtain ⟨i, hi, he, hno, hset, _⟩ := lst_at hG hk (by rw [hf]; exact ha)
    have HF := Lib.hid (rfind_at w v _ (k : Int) i h h64 hi (by rw [he, hf]) hno)
    have HH := Lib.hid fun w => rshare_yes n w h1 h2
    have HTW := Lib.hid (rtwin_any w v _ h)
    have hi0 : decide ((i : Int) < 0) = false := decide_eq_false (by omega)
    rw [hf] at he
    have hcn := cnt_in (c := ⟨k, a, n, false⟩) ha ha2 (by simp only; omega) h2
    have HX := Lib.hid (cells4_x _ i hi n)
    have HSM := Lib.hid (hls.set i ⟨k, a, n, false⟩ hcn.1 hcn.2)
    have hS2 := lsum_set _ i hi ⟨k, a, n, false⟩
    rw [hsum, he, ← hf] at hS2
    rw [← hS2] at ho
    have HSET := Lib.hid (hset ⟨k, a, n, false⟩ ha)
    have hp0 := (lsum_in HSM.out.each).1
    have HSUM := Lib.hid fun W u (hu : Rd W u ((lst f 0 64).set i ⟨k, a, n, false⟩)) => rsum_any W u _ hu HSM.out
    rw [he] at HX
    simp only at HX
    clear hno hf hls hsum hset hS2 hcn
    generalize lsum ((lst f 0 64).set i ⟨k, a, n, false⟩) = S2 at *
    have hov : decide (1048576 < S2) = true := decide_eq_true (by omega)
    generalize lst f 0 64 = L at *
    have hi' : (i : Int) < (L.length : Int) := by omega
    have hi2 : (0 : Int) ≤ (i : Int) := by omega
    obtain ⟨p, cap, rfl, _, hcc⟩ := h
    obtain ⟨b, off, rfl, c0, c1, c2, c3⟩ := hcc i hi
    rw [he] at c0 c1 c2 c3
    simp only at c0 c1 c2 c3
    clear hcc he
    go_enter Try.func29, Try.ntmps29
    go_wp2_with fail
    refine HF.out.mono ?_
    rintro e w1 ⟨rfl, rfl⟩
    go_wp2_with fail
    refine (HH.out _).mono ?_
    rintro e w1 ⟨rfl, rfl⟩
    go_wp2_with fail
    refine HTW.out.mono ?_
    rintro e w2 ⟨v2, rfl, ho2, hb2⟩
    obtain ⟨g, cp2, rfl, _, _⟩ := ho2.form (by omega)
    obtain ⟨⟨u, q0⟩, q1, q2, q3⟩ := own_at ho2 (i * 4 + 2) (by omega)
    have HO3 := Lib.hid (own_cell (ys := cells4 (L.set i ⟨k, a, n, false⟩)) ho2 (i * 4 + 2) (.int .i64 n) HX.out)
    have HB3 := Lib.hid (hb2.setCell (p := ⟨g, i * 4 + 2, none⟩) q2 (.int .i64 n))
    clear ho2 hb2
    go_upto_region 10 with fail
    generalize w2.setCell ⟨g, i * 4 + 2, none⟩ (.int .i64 n) = w3 at *
    clear q0 q1 q2 q3
    have hrc : Rc w3 (.slice (some ⟨g, 0, none⟩) L.length cp2) (L.set i ⟨k, a, n, false⟩) := own_rc (by rw [List.length_set]; exact HO3.out) (by rw [List.length_set]; omega)
    have HRC := Lib.hid hrc
    clear hrc
    go_wp2_with fail
    refine (HSUM.out _ _ HRC.out.1).mono ?_
    rintro e w4 ⟨rfl, hb4⟩
    have HB4 := Lib.hid (bnext HB3.out hb4)
    have HR4 := Lib.hid (HRC.out.below hb4)
    clear hb4
    go_wp2_with fail
    go_ret2
    exact ⟨_, rfl, HR.out.below HB4.out, HB4.out⟩
  | ok k a x hs hk hf ha ha2 h1 h2 ho =>
    subst hs
    obtain ⟨i, hi, he, hno, hset, _⟩ := lst_at hG hk (by rw [hf]; exact ha)
    have HF := Lib.hid (rfind_at w v _ (k : Int) i h h64 hi (by rw [he, hf]) hno)
    have HH := Lib.hid fun w => rshare_yes n w h1 h2
    have HTW := Lib.hid (rtwin_any w v _ h)
    have hi0 : decide ((i : Int) < 0) = false := decide_eq_false (by omega)
    rw [hf] at he
    have hcn := cnt_in (c := ⟨k, a, n, false⟩) ha ha2 (by simp only; omega) h2
    have HX := Lib.hid (cells4_x _ i hi n)
    have HSM := Lib.hid (hls.set i ⟨k, a, n, false⟩ hcn.1 hcn.2)
    have hS2 := lsum_set _ i hi ⟨k, a, n, false⟩
    rw [hsum, he, ← hf] at hS2
    rw [← hS2] at ho
    have HSET := Lib.hid (hset ⟨k, a, n, false⟩ ha)
    have hp0 := (lsum_in HSM.out.each).1
    have HSUM := Lib.hid fun W u (hu : Rd W u ((lst f 0 64).set i ⟨k, a, n, false⟩)) => rsum_any W u _ hu HSM.out
    rw [he] at HX
    simp only at HX
    clear hno hf hls hsum hset hS2 hcn
    generalize lsum ((lst f 0 64).set i ⟨k, a, n, false⟩) = S2 at *
    have hov : decide (1048576 < S2) = false := decide_eq_false (by omega)
    generalize lst f 0 64 = L at *
    have hi' : (i : Int) < (L.length : Int) := by omega
    have hi2 : (0 : Int) ≤ (i : Int) := by omega
    obtain ⟨p, cap, rfl, _, hcc⟩ := h
    obtain ⟨b, off, rfl, c0, c1, c2, c3⟩ := hcc i hi
    rw [he] at c0 c1 c2 c3
    simp only at c0 c1 c2 c3
    clear hcc he
    go_enter Try.func29, Try.ntmps29
    go_wp2_with fail
    refine HF.out.mono ?_
    rintro e w1 ⟨rfl, rfl⟩
    go_wp2_with fail
    refine (HH.out _).mono ?_
    rintro e w1 ⟨rfl, rfl⟩
    go_wp2_with fail
    refine HTW.out.mono ?_
    rintro e w2 ⟨v2, rfl, ho2, hb2⟩
    obtain ⟨g, cp2, rfl, _, _⟩ := ho2.form (by omega)
    obtain ⟨⟨u, q0⟩, q1, q2, q3⟩ := own_at ho2 (i * 4 + 2) (by omega)
    have HO3 := Lib.hid (own_cell (ys := cells4 (L.set i ⟨k, a, n, false⟩)) ho2 (i * 4 + 2) (.int .i64 n) HX.out)
    have HB3 := Lib.hid (hb2.setCell (p := ⟨g, i * 4 + 2, none⟩) q2 (.int .i64 n))
    clear ho2 hb2
    go_upto_region 10 with fail
    generalize w2.setCell ⟨g, i * 4 + 2, none⟩ (.int .i64 n) = w3 at *
    clear q0 q1 q2 q3
    have hrc : Rc w3 (.slice (some ⟨g, 0, none⟩) L.length cp2) (L.set i ⟨k, a, n, false⟩) := own_rc (by rw [List.length_set]; exact HO3.out) (by rw [List.length_set]; omega)
    have HRC := Lib.hid hrc
    clear hrc
    go_wp2_with fail
    refine (HSUM.out _ _ HRC.out.1).mono ?_
    rintro e w4 ⟨rfl, hb4⟩
    have HB4 := Lib.hid (bnext HB3.out hb4)
    have HR4 := Lib.hid (HRC.out.below hb4)
    clear hb4
    go_wp2_with fail
    go_ret2
    exact ⟨_, rfl, by rw [← HSET.out]; exact HR4.out, HB4.out⟩
end Go.Proofs.Ytilbohjkkdkdiaa
