/- The document's own Add; no condition but those that each row names. -/
import Derived.Test.YtilbohjkkdkdiaaGRefA
import Derived.Test.YtilbohjkkdkdiaaGAct
namespace Go.Proofs.Ytilbohjkkdkdiaa
open Go.RowKit

/-- What the document's acts answer. -/
def RAns (w : World) (L' : List Cl) (n : Int) (e : Ending) (w' : World) : Prop := ∃ v', e = .returned (.tuple #[v', .int .i64 n]) ∧ Rc w' v' L' ∧ Below w.heap.size w w'
theorem lst64 (f : Nat → Cl) : (lst f 0 64).length ≤ 64 := lst_len f 0 64
theorem lst_sml {f : Nat → Cl} (hG : Good f) : Sml (lst f 0 64) := ⟨lst64 f, fun _ hc => lst_each hG hc⟩
theorem own_grow {w W W' : World} {v : Value} {n : Nat} {xs : List Value} (hb : Below w.heap.size w W) (ho : W.ownsRow w.heap.size RT 4 v n xs) (hg : W.grownBy W' v.ownBlock) : Below w.heap.size w W' :=
  hb.grown hg hb.size (fun g e => by
    rcases ho.2 with ⟨h1, _⟩ | ⟨g', c', cu, h1, h2, _⟩
    · rw [h1] at e; simp [Value.ownBlock] at e
    · rw [h1] at e; simp [Value.ownBlock] at e; omega)
theorem own_snoc {B : Nat} {w : World} {p : Option Addr} {cap : Nat} {N : List Cl} {c : Cl} (h : w.ownsRow B RT 4 (.slice p (N.length + 1) cap) (N.length + 1) (cells4 N ++ [.int .i64 c.s, .int .i64 c.n, .int .i64 c.x, .bool c.d])) : w.ownsRow B RT 4 (.slice p (N.length + 1) cap) (N ++ [c]).length (cells4 (N ++ [c])) := by
  have e : cells4 (N ++ [c]) = cells4 N ++ [.int .i64 c.s, .int .i64 c.n, .int .i64 c.x, .bool c.d] := by rw [cells4_append]; rfl
  rw [e, List.length_append]; exact h
theorem own_snoc2 {B : Nat} {w : World} {p : Option Addr} {cap : Nat} {N : List Cl} {c d : Cl} (h : w.ownsRow B RT 4 (.slice p (N.length + 1 + 1) cap) (N.length + 1 + 1) (cells4 N ++ [.int .i64 c.s, .int .i64 c.n, .int .i64 c.x, .bool c.d, .int .i64 d.s, .int .i64 d.n, .int .i64 d.x, .bool d.d])) : w.ownsRow B RT 4 (.slice p (N.length + 1 + 1) cap) ((N ++ [c]) ++ [d]).length (cells4 ((N ++ [c]) ++ [d])) := by
  have e : cells4 ((N ++ [c]) ++ [d]) = cells4 N ++ [.int .i64 c.s, .int .i64 c.n, .int .i64 c.x, .bool c.d, .int .i64 d.s, .int .i64 d.n, .int .i64 d.x, .bool d.d] := by rw [cells4_append, cells4_append]; simp [cells4]
  rw [e, List.length_append, List.length_append]; exact h
theorem own_al {B e z n : Nat} {w : World} {v : Value} {xs : List Value} (h : w.ownsRow B e z v n xs) (o : Obj) : (w.alloc o).ownsRow B e z v n xs := h.kept (World.grownBy_alloc _ _ none) (Classical.em _)

theorem take_snoc' (L : List Cl) (j : Nat) (h : j < L.length) : L.take j ++ [L[j]] = L.take (j + 1) := (List.take_succ_eq_append_getElem h).symm
theorem drop_snoc (L : List Cl) (a j : Nat) (h : j < L.length) (ha : a ≤ j) : (L.drop a).take (j - a) ++ [L[j]] = (L.drop a).take (j + 1 - a) := by
  rw [show j + 1 - a = (j - a) + 1 from by omega, List.take_succ_eq_append_getElem (by rw [List.length_drop]; omega)]
  congr 2
  rw [List.getElem_drop]
  congr 1; omega
/-- What has been laid behind k rounds. -/
def addN (L : List Cl) (a : Nat) (c : Cl) (k : Nat) : List Cl := if a < k then L.take a ++ c :: (L.drop a).take (k - a) else L.take k
theorem addN_len (L : List Cl) (a : Nat) (c : Cl) (k : Nat) : (addN L a c k).length ≤ k + 1 := by
  unfold addN; split
  · simp; omega
  · simp; omega
theorem addN_below {L : List Cl} {a : Nat} {c : Cl} {k : Nat} (h : k < L.length) (ha : k < a) : addN L a c k ++ [L[k]] = addN L a c (k + 1) := by
  unfold addN; rw [if_neg (by omega), if_neg (by omega), take_snoc' L k h]
theorem addN_above {L : List Cl} {a : Nat} {c : Cl} {k : Nat} (h : k < L.length) (ha : a < k) : addN L a c k ++ [L[k]] = addN L a c (k + 1) := by
  unfold addN; rw [if_pos ha, if_pos (by omega), ← drop_snoc L a k h (by omega)]; simp
theorem addN_at {L : List Cl} {a : Nat} {c : Cl} (h : a < L.length) : (addN L a c a ++ [c]) ++ [L[a]] = addN L a c (a + 1) := by
  unfold addN; rw [if_neg (by omega), if_pos (by omega), ← drop_snoc L a a h (Nat.le_refl _)]; simp
theorem addN_end {L : List Cl} {a : Nat} {c : Cl} (h : a < L.length) : addN L a c L.length = L.take a ++ c :: L.drop a := by
  unfold addN; rw [if_pos h, List.take_of_length_le (l := L.drop a) (by rw [List.length_drop]; omega)]
theorem addN_last {L : List Cl} {a : Nat} {c : Cl} (h : a = L.length) : addN L a c L.length ++ [c] = L.take a ++ c :: L.drop a := by
  subst h; unfold addN; rw [if_neg (by omega)]; simp

set_option maxHeartbeats 4000000 in
set_option maxRecDepth 100000 in
theorem radd_ok (w : World) (v : Value) (L : List Cl) (a : Nat) (s n : Int) (h : Rd w v L) (hs : Sml L) (ha : a ≤ L.length) (h0 : 0 ≤ s) (h1 : s < 64) (hA : ∀ j (h : j < L.length), j < a → L[j].s < s) (hB : ∀ j (h : j < L.length), a ≤ j → s < L[j].s) (hn1 : 1 ≤ n) (hn2 : n ≤ 1048576) (hsum : lsum L + n ≤ 1048576) :
    Calls Try.prog 28 #[v, .int .i64 s, .int .i64 n] w (RAns w (L.take a ++ ⟨s, n, 0, false⟩ :: L.drop a) 0) := by
  have HF := Lib.hid (rfind_no w v L s h hs.len (fun c hc => by
    obtain ⟨j, hj, rfl⟩ := List.getElem_of_mem hc
    by_cases k : j < a
    · have := hA j hj k; omega
    · have := hB j hj (by omega); omega))
  have HH := Lib.hid fun w => rshare_yes n w hn1 hn2
  have HS := Lib.hid (rsum_any w v _ h hs)
  have hl0 := (lsum_in hs.each).1
  have h64 := hs.len
  obtain ⟨S, hS⟩ : ∃ S, lsum L = S := ⟨_, rfl⟩
  rw [hS] at HS hl0 hsum
  obtain ⟨p, cap, rfl, hl, hc⟩ := h
  have HC := Lib.hid hc
  have HA := Lib.hid hA
  have HBB := Lib.hid hB
  have hs0 : decide (s < 0) = false := decide_eq_false (by omega)
  have hs1 : decide (64 ≤ s) = false := decide_eq_false (by omega)
  have hov : decide (1048576 < S + n) = false := decide_eq_false (by omega)
  clear hc hA hB hs hS
  go_enter Try.func28, Try.ntmps28
  go_wp2_with fail
  refine HF.out.mono ?_
  rintro e w1 ⟨rfl, rfl⟩
  go_wp2_with fail
  refine (HH.out _).mono ?_
  rintro e w1 ⟨rfl, rfl⟩
  go_wp2_with fail
  refine HS.out.mono ?_
  rintro e w1 ⟨rfl, hb1⟩
  have HB1 := Lib.hid hb1
  clear hb1 HF HH HS
  go_wp2_with fail
  go_loopw [8, 9, 10] (fun u dv i wr => ∃ (k : Nat) (N : List Cl), k ≤ L.length ∧ i = .int .i64 k ∧ dv = .bool (decide (a < k)) ∧ N.length ≤ k + 1 ∧ Hid (N = addN L a ⟨s, n, 0, false⟩ k) ∧ Hid (wr.ownsRow w.heap.size RT 4 u N.length (cells4 N)) ∧ Hid (Below w.heap.size w wr)) (fun _ _ i _ => L.length - (intOf i).toNat)
  case atStart => exact ⟨0, [], by omega, rfl, by simp, by simp, Lib.hid (by simp [addN]), Lib.hid (World.ownsRow_nil _ _ _ _), HB1⟩
  case round =>
    obtain ⟨k, N, hk, rfl, rfl, hNl, HN, HO, HBW⟩ := hrel
    clear HB1
    obtain ⟨pu, cu, rfl, _⟩ := own_small HO.out
    have hzw := HBW.out.size
    by_cases hlt : k < L.length
    · have hlt' : (k : Int) < (L.length : Int) := by omega
      have hk0 : (0 : Int) ≤ (k : Int) := by omega
      obtain ⟨b, off, rfl, c0, c1, c2, c3⟩ := HC.out k hlt
      have d0 := (HBW.out.cell (cell_lt c0)).trans c0
      have d1 := (HBW.out.cell (cell_lt c1)).trans c1
      have d2 := (HBW.out.cell (cell_lt c2)).trans c2
      have d3 := (HBW.out.cell (cell_lt c3)).trans c3
      rcases Nat.lt_trichotomy k a with hka | hka | hka
      · have hcs := HA.out k hlt hka
        have y1 : decide (a < k) = false := decide_eq_false (by omega)
        have HN2 := Lib.hid (show N ++ [L[k]] = addN L a ⟨s, n, 0, false⟩ (k + 1) from by rw [HN.out]; exact addN_below hlt hka)
        have y2 : decide (a < k + 1) = false := decide_eq_false (by omega)
        clear c0 c1 c2 c3
        generalize L[k] = c at *
        obtain ⟨cs, cn, cx, cd⟩ := c
        simp only at d0 d1 d2 d3 hcs
        have y3 : decide (s < cs) = false := decide_eq_false (by omega)
        rw [y1]
        go_wp2_with (at_builtin; refine wpList_append_R rfl _ _ rfl w.heap.size (.slice pu N.length cu) N.length (cells4 N) rfl (own_al HO.out _) _ 1 [.int .i64 cs, .int .i64 cn, .int .i64 cx, .bool cd] rfl (src_one wr _ _ _ _ _) (one_cells _ _ _ _) (by omega) (by simp; omega) ?_)
        intro p1 c1 w2 ho hg _
        have HO2 := Lib.hid (own_snoc (c := ⟨cs, cn, cx, cd⟩) ho)
        have HB2 := Lib.hid (own_grow (HBW.out.alloc hzw _) (own_al HO.out _) hg)
        clear ho hg
        go_wp2_with fail
        go_roundw
        case rel => exact ⟨k + 1, _, by omega, by go_num, by rw [y2], by simp; omega, HN2, HO2, HB2⟩
        case measure => simp [intOf]; omega
      · subst hka
        have hN0 : N.length ≤ k := by rw [HN.out]; unfold addN; rw [if_neg (by omega)]; exact List.length_take_le ..
        have hcs := HBB.out k hlt (Nat.le_refl _)
        have y1 : decide (k < k) = false := decide_eq_false (by omega)
        have HN2 := Lib.hid (show (N ++ [⟨s, n, 0, false⟩]) ++ [L[k]] = addN L k ⟨s, n, 0, false⟩ (k + 1) from by rw [HN.out]; exact addN_at hlt)
        have y2 : decide (k < k + 1) = true := decide_eq_true (by omega)
        generalize L[k] = c at *
        obtain ⟨cs, cn, cx, cd⟩ := c
        simp only at d0 d1 d2 d3 hcs c0 c1 c2 c3
        have HS0 := c0
        have HS1 := c1
        have HS2 := c2
        have HS3 := c3
        clear c0 c1 c2 c3
        have y3 : decide (s < cs) = true := decide_eq_true (by omega)
        rw [y1]
        go_wp2_with (at_builtin; refine wpList_append_R rfl _ _ rfl w.heap.size (.slice pu N.length cu) N.length (cells4 N) rfl (own_al HO.out _) _ 1 [.int .i64 s, .int .i64 n, .int .i64 0, .bool false] rfl (src_one wr _ _ _ _ _) (one_cells _ _ _ _) (by omega) (by simp; omega) ?_)
        intro p1 c1 w2 ho hg _
        have hb2 := own_grow (HBW.out.alloc hzw _) (own_al HO.out _) hg
        have k0 := (hb2.cell (cell_lt HS0)).trans HS0
        have k1 := (hb2.cell (cell_lt HS1)).trans HS1
        have k2 := (hb2.cell (cell_lt HS2)).trans HS2
        have k3 := (hb2.cell (cell_lt HS3)).trans HS3
        have HO1 := Lib.hid ho
        have HB1 := Lib.hid hb2
        have hzw2 := hb2.size
        clear ho hg hb2 d0 d1 d2 d3 HS0 HS1 HS2 HS3
        go_wp2_with (at_builtin; refine wpList_append_R rfl _ _ rfl w.heap.size (.slice p1 (N.length + 1) c1) (N.length + 1) (cells4 N ++ [.int .i64 s, .int .i64 n, .int .i64 0, .bool false]) rfl (own_al HO1.out _) _ 1 [.int .i64 cs, .int .i64 cn, .int .i64 cx, .bool cd] rfl (src_one w2 _ _ _ _ _) (one_cells _ _ _ _) (by omega) (by simp; omega) ?_)
        intro p2 c2 w3 ho hg _
        have HO2 := Lib.hid (own_snoc2 (c := ⟨s, n, 0, false⟩) (d := ⟨cs, cn, cx, cd⟩) ho)
        have HB2 := Lib.hid (own_grow (HB1.out.alloc hzw2 _) (own_al HO1.out _) hg)
        clear ho hg
        go_wp2_with fail
        go_roundw
        case rel => exact ⟨k + 1, _, by omega, by go_num, by rw [y2], by simp; omega, HN2, HO2, HB2⟩
        case measure => simp [intOf]; omega
      · have hcs := HBB.out k hlt (by omega)
        have y1 : decide (a < k) = true := decide_eq_true hka
        have HN2 := Lib.hid (show N ++ [L[k]] = addN L a ⟨s, n, 0, false⟩ (k + 1) from by rw [HN.out]; exact addN_above hlt hka)
        have y2 : decide (a < k + 1) = true := decide_eq_true (by omega)
        clear c0 c1 c2 c3
        generalize L[k] = c at *
        obtain ⟨cs, cn, cx, cd⟩ := c
        simp only at d0 d1 d2 d3 hcs
        have y3 : decide (s < cs) = true := decide_eq_true (by omega)
        rw [y1]
        go_wp2_with (at_builtin; refine wpList_append_R rfl _ _ rfl w.heap.size (.slice pu N.length cu) N.length (cells4 N) rfl (own_al HO.out _) _ 1 [.int .i64 cs, .int .i64 cn, .int .i64 cx, .bool cd] rfl (src_one wr _ _ _ _ _) (one_cells _ _ _ _) (by omega) (by simp; omega) ?_)
        intro p1 c1 w2 ho hg _
        have HO2 := Lib.hid (own_snoc (c := ⟨cs, cn, cx, cd⟩) ho)
        have HB2 := Lib.hid (own_grow (HBW.out.alloc hzw _) (own_al HO.out _) hg)
        clear ho hg
        go_wp2_with fail
        go_roundw
        case rel => exact ⟨k + 1, _, by omega, by go_num, by rw [y2], by simp; omega, HN2, HO2, HB2⟩
        case measure => simp [intOf]; omega
    · obtain rfl : k = L.length := by omega
      have hg3 : decide (L.length < L.length) = false := decide_eq_false (by omega)
      by_cases hal : a < L.length
      · have y1 : decide (a < L.length) = true := decide_eq_true hal
        have HE := Lib.hid (show N = L.take a ++ ⟨s, n, 0, false⟩ :: L.drop a from by rw [HN.out]; exact addN_end hal)
        have HL := Lib.hid (show N.length ≤ 4398046511103 from by omega)
        rw [y1]
        clear hlt
        go_wp2_with fail
        go_ret2
        exact ⟨_, rfl, by rw [← HE.out]; exact own_rc HO.out HL.out, HBW.out⟩
      · have y1 : decide (a < L.length) = false := decide_eq_false hal
        have HE := Lib.hid (show N ++ [(⟨s, n, 0, false⟩ : Cl)] = L.take a ++ ⟨s, n, 0, false⟩ :: L.drop a from by rw [HN.out]; exact addN_last (by omega))
        have HL := Lib.hid (show (N ++ [(⟨s, n, 0, false⟩ : Cl)]).length ≤ 4398046511103 from by simp; omega)
        rw [y1]
        clear hlt hal
        go_wp2_with (at_builtin; refine wpList_append_R rfl _ _ rfl w.heap.size (.slice pu N.length cu) N.length (cells4 N) rfl (own_al HO.out _) _ 1 [.int .i64 s, .int .i64 n, .int .i64 0, .bool false] rfl (src_one wr _ _ _ _ _) (one_cells _ _ _ _) (by omega) (by simp; omega) ?_)
        intro p1 c1 w2 ho hg _
        have HO2 := Lib.hid (own_snoc (c := ⟨s, n, 0, false⟩) ho)
        have HB2 := Lib.hid (own_grow (HBW.out.alloc hzw _) (own_al HO.out _) hg)
        clear ho hg
        go_wp2_with fail
        go_ret2
        exact ⟨_, rfl, by rw [← HE.out]; have h := own_rc HO2.out HL.out; simpa using h, HB2.out⟩

/-- The list in the order of slots: where a slot would stand. -/
theorem lst_place {f : Nat → Cl} (hG : Good f) {k : Nat} (hk : k < 64) (hz : f k = zc) : (lst f 0 k).length ≤ (lst f 0 64).length ∧
    (∀ j (h : j < (lst f 0 64).length), j < (lst f 0 k).length → (lst f 0 64)[j].s < (k : Int)) ∧ (∀ j (h : j < (lst f 0 64).length), (lst f 0 k).length ≤ j → (k : Int) < (lst f 0 64)[j].s) ∧
    ∀ c, 1 ≤ c.n → (lst f 0 64).take (lst f 0 k).length ++ c :: (lst f 0 64).drop (lst f 0 k).length = lst (upd f k c) 0 64 := by
  have hone : one (f k) = [] := by rw [hz]; rfl
  have hsp := lst_split f k hk
  rw [hone, List.nil_append] at hsp
  have h1 := hG.below (i := k) (by omega)
  have h2 := hG.above (i := k) (k := 63 - k) (by omega)
  have hup : ∀ c, lst (upd f k c) 0 64 = lst f 0 k ++ (one c ++ lst f (k + 1) (63 - k)) := fun c => lst_upd f k c hk
  generalize lst f 0 k = A at *
  generalize lst f (k + 1) (63 - k) = B at *
  generalize lst f 0 64 = L at *
  subst hsp
  refine ⟨by simp, fun j hj ha => ?_, fun j hj ha => ?_, fun c hc => ?_⟩
  · rw [List.getElem_append_left ha]; exact (h1 _ (List.getElem_mem ha)).1
  · rw [List.getElem_append_right ha]; exact h2 _ (List.getElem_mem _)
  · rw [hup]; unfold one; rw [if_pos hc]; simp
theorem lst_no {f : Nat → Cl} (hG : Good f) {k : Nat} (hz : f k = zc) : ∀ c ∈ lst f 0 64, c.s ≠ (k : Int) := by
  intro c hc e
  obtain ⟨j, _, hj, rfl, hn⟩ := lst_mem 0 64 hc
  have := (hG.there (i := j) (by omega) hn).1
  obtain rfl : j = k := by omega
  rw [hz] at hn; simp [zc] at hn
theorem lst_out {f : Nat → Cl} (hG : Good f) {s : Int} (h : ¬ there f s) : ∀ c ∈ lst f 0 64, c.s ≠ s := by
  intro c hc e
  obtain ⟨j, _, hj, rfl, hn⟩ := lst_mem 0 64 hc
  have := (hG.there (i := j) (by omega) hn).1
  rw [this] at e
  subst e
  exact h ((there_nat (by omega)).2 hn)
theorem lst_mid {f : Nat → Cl} {k : Nat} (hk : k < 64) (hn : 1 ≤ (f k).n) : lst f 0 64 = lst f 0 k ++ f k :: lst f (k + 1) (63 - k) := by
  rw [lst_split f k hk, one, if_pos hn]; rfl
theorem lst_at {f : Nat → Cl} (hG : Good f) {k : Nat} (hk : k < 64) (hn : 1 ≤ (f k).n) : ∃ i, ∃ h : i < (lst f 0 64).length, (lst f 0 64)[i] = f k ∧ (∀ j (h : j < (lst f 0 64).length), j < i → (lst f 0 64)[j].s ≠ (k : Int)) ∧
    (∀ c, 1 ≤ c.n → (lst f 0 64).set i c = lst (upd f k c) 0 64) ∧ (lst f 0 64).take i ++ (lst f 0 64).drop (i + 1) = lst (upd f k zc) 0 64 := by
  have h1 := hG.below (i := k) (by omega)
  have hup : ∀ c, lst (upd f k c) 0 64 = lst f 0 k ++ (one c ++ lst f (k + 1) (63 - k)) := fun c => lst_upd f k c hk
  have hm := lst_mid hk hn
  generalize lst f 0 k = A at *
  generalize lst f (k + 1) (63 - k) = B at *
  generalize lst f 0 64 = L at *
  subst hm
  refine ⟨A.length, by simp, by simp, fun j hj ha => ?_, fun c hc => ?_, ?_⟩
  · rw [List.getElem_append_left ha]; have := (h1 _ (List.getElem_mem ha)).1; omega
  · rw [hup]; unfold one; rw [if_pos hc]; simp
  · rw [hup]; unfold one zc; simp
set_option maxHeartbeats 2000000 in
/-- Add, whatever is asked. -/
theorem radd_any (w : World) (v : Value) (f : Nat → Cl) (s n : Int) (hG : Good f) (hc : Rc w v (lst f 0 64)) :
    Calls Try.prog 28 #[v, .int .i64 s, .int .i64 n] w (RAns w (lst (addF f s n) 0 64) (addE f s n)) := by
  have hw := add_way hG s n
  generalize addE f s n = r at *
  generalize addF f s n = f' at *
  have HR := Lib.hid hc
  have h := hc.1
  clear hc
  have hls := lst_sml hG
  have h64 := lst64 f
  have hsum := hG.lsum 64 (by omega)
  cases hw with
  | arg hh =>
    generalize lst f 0 64 = L at *
    obtain ⟨p, cap, rfl, _⟩ := h
    by_cases h0 : s < 0
    · clear hh
      go_enter Try.func28, Try.ntmps28
      go_wp2
      go_ret2
      exact ⟨_, rfl, HR.out, Below.refl _ _⟩
    · have h1 : 64 ≤ s := by omega
      have h0' : decide (s < 0) = false := decide_eq_false h0
      clear hh h0
      go_enter Try.func28, Try.ntmps28
      go_wp2
      go_ret2
      exact ⟨_, rfl, HR.out, Below.refl _ _⟩
  | room k hs hk hn =>
    subst hs
    obtain ⟨i, hi, he, hno, _, _⟩ := lst_at hG hk hn
    have HF := Lib.hid (rfind_at w v _ (k : Int) i h h64 hi (by rw [he]; exact (hG.there hk hn).1) hno)
    have hi0 : (0 : Int) ≤ (i : Int) := by omega
    have hk0 : decide ((k : Int) < 0) = false := decide_eq_false (by omega)
    have hk1 : decide (64 ≤ (k : Int)) = false := decide_eq_false (by omega)
    clear he hno hn
    generalize lst f 0 64 = L at *
    obtain ⟨p, cap, rfl, _⟩ := h
    go_enter Try.func28, Try.ntmps28
    go_wp2_with fail
    refine HF.out.mono ?_
    rintro e w1 ⟨rfl, rfl⟩
    go_wp2_with fail
    go_ret2
    exact ⟨_, rfl, HR.out, Below.refl _ _⟩
  | range k hs hk hz hn =>
    subst hs
    have HF := Lib.hid (rfind_no w v _ (k : Int) h h64 (lst_no hG hz))
    have HH := Lib.hid fun w => rshare_no n w hn
    have hk0 : decide ((k : Int) < 0) = false := decide_eq_false (by omega)
    have hk1 : decide (64 ≤ (k : Int)) = false := decide_eq_false (by omega)
    clear hn hz
    generalize lst f 0 64 = L at *
    obtain ⟨p, cap, rfl, _⟩ := h
    go_enter Try.func28, Try.ntmps28
    go_wp2_with fail
    refine HF.out.mono ?_
    rintro e w1 ⟨rfl, rfl⟩
    go_wp2_with fail
    refine (HH.out _).mono ?_
    rintro e w1 ⟨rfl, rfl⟩
    go_wp2_with fail
    go_ret2
    exact ⟨_, rfl, HR.out, Below.refl _ _⟩
  | over k hs hk hz h1 h2 ho =>
    subst hs
    have HF := Lib.hid (rfind_no w v _ (k : Int) h h64 (lst_no hG hz))
    have HH := Lib.hid fun w => rshare_yes n w h1 h2
    have HS := Lib.hid (rsum_any w v _ h hls)
    rw [hsum] at HS
    have hp := hG.pos
    have hs1 := hG.sum
    have hk0 : decide ((k : Int) < 0) = false := decide_eq_false (by omega)
    have hk1 : decide (64 ≤ (k : Int)) = false := decide_eq_false (by omega)
    clear hz hsum hls
    generalize sumTo f 64 = S at *
    have hov : decide (1048576 < S + n) = true := decide_eq_true ho
    generalize lst f 0 64 = L at *
    obtain ⟨p, cap, rfl, _⟩ := h
    go_enter Try.func28, Try.ntmps28
    go_wp2_with fail
    refine HF.out.mono ?_
    rintro e w1 ⟨rfl, rfl⟩
    go_wp2_with fail
    refine (HH.out _).mono ?_
    rintro e w1 ⟨rfl, rfl⟩
    go_wp2_with fail
    refine HS.out.mono ?_
    rintro e w1 ⟨rfl, hb1⟩
    have HB1 := Lib.hid hb1
    clear hb1
    go_wp2_with fail
    go_ret2
    exact ⟨_, rfl, HR.out.below HB1.out, HB1.out⟩
  | ok k hs hk hz h1 h2 ho =>
    subst hs
    obtain ⟨ha, hA, hB, hr⟩ := lst_place hG hk hz
    rw [← hr ⟨k, n, 0, false⟩ h1]
    exact radd_ok w v _ _ k n h hls ha (by omega) (by omega) hA hB h1 h2 (by rw [hsum]; exact ho)
end Go.Proofs.Ytilbohjkkdkdiaa
