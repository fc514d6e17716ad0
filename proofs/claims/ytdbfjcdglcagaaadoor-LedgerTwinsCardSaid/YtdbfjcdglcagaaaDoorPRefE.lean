/- The document's own book: Load; no condition but those that each row names. -/
import Derived.Test.YtdbfjcdglcagaaaDoorPRefD
import Derived.Test.YtdbfjcdglcagaaaDoorPRefC
namespace Go.Proofs.YtdbfjcdglcagaaaDoor
open Go.RowKit Bk

theorem own_setA {B : Nat} {w : World} {L : List Ln} {g n cap : Nat} (h : w.ownsRow B LT 14 (.slice (some ⟨g, 0, none⟩) n cap) n (lnL L)) (i : Nat) (hi : i < L.length) (x : Ln) (hx : x = L[i]) (u : Ac) :
    ((((((w.setCell ⟨g, i * 14 + 2, none⟩ (.int .i64 u.g)).setCell ⟨g, i * 14 + 3, none⟩ (.int .i64 u.o)).setCell ⟨g, i * 14 + 4, none⟩ (.int .i64 u.l)).setCell ⟨g, i * 14 + 5, none⟩ (.int .i64 u.d)).setCell ⟨g, i * 14 + 6, none⟩ (.int .i64 u.c)).setCell ⟨g, i * 14 + 7, none⟩ (.int .i64 u.t)).ownsRow B LT 14 (.slice (some ⟨g, 0, none⟩) n cap) n (lnL (L.set i { x with a := u })) := by
  have h1 := own_set14 h i hi 2 (by omega) (.int .i64 u.g) { x with a := ⟨u.g, x.a.o, x.a.l, x.a.d, x.a.c, x.a.t⟩ } (by rw [← hx]; rfl)
  have h2 := own_set14 h1 i (by simpa using hi) 3 (by omega) (.int .i64 u.o) { x with a := ⟨u.g, u.o, x.a.l, x.a.d, x.a.c, x.a.t⟩ } (by simp only [List.getElem_set_self]; rfl)
  rw [List.set_set] at h2
  have h3 := own_set14 h2 i (by simpa using hi) 4 (by omega) (.int .i64 u.l) { x with a := ⟨u.g, u.o, u.l, x.a.d, x.a.c, x.a.t⟩ } (by simp only [List.getElem_set_self]; rfl)
  rw [List.set_set] at h3
  have h4 := own_set14 h3 i (by simpa using hi) 5 (by omega) (.int .i64 u.d) { x with a := ⟨u.g, u.o, u.l, u.d, x.a.c, x.a.t⟩ } (by simp only [List.getElem_set_self]; rfl)
  rw [List.set_set] at h4
  have h5 := own_set14 h4 i (by simpa using hi) 6 (by omega) (.int .i64 u.c) { x with a := ⟨u.g, u.o, u.l, u.d, u.c, x.a.t⟩ } (by simp only [List.getElem_set_self]; rfl)
  rw [List.set_set] at h5
  have h6 := own_set14 h5 i (by simpa using hi) 7 (by omega) (.int .i64 u.t) { x with a := ⟨u.g, u.o, u.l, u.d, u.c, u.t⟩ } (by simp only [List.getElem_set_self]; rfl)
  rw [List.set_set] at h6
  exact h6
theorem own_setC {B : Nat} {w : World} {L : List Ln} {g n cap : Nat} (h : w.ownsRow B LT 14 (.slice (some ⟨g, 0, none⟩) n cap) n (lnL L)) (i : Nat) (hi : i < L.length) (x : Ln) (hx : x = L[i]) (u : Ac) :
    ((((((w.setCell ⟨g, i * 14 + 8, none⟩ (.int .i64 u.g)).setCell ⟨g, i * 14 + 9, none⟩ (.int .i64 u.o)).setCell ⟨g, i * 14 + 10, none⟩ (.int .i64 u.l)).setCell ⟨g, i * 14 + 11, none⟩ (.int .i64 u.d)).setCell ⟨g, i * 14 + 12, none⟩ (.int .i64 u.c)).setCell ⟨g, i * 14 + 13, none⟩ (.int .i64 u.t)).ownsRow B LT 14 (.slice (some ⟨g, 0, none⟩) n cap) n (lnL (L.set i { x with c := u })) := by
  have h1 := own_set14 h i hi 8 (by omega) (.int .i64 u.g) { x with c := ⟨u.g, x.c.o, x.c.l, x.c.d, x.c.c, x.c.t⟩ } (by rw [← hx]; rfl)
  have h2 := own_set14 h1 i (by simpa using hi) 9 (by omega) (.int .i64 u.o) { x with c := ⟨u.g, u.o, x.c.l, x.c.d, x.c.c, x.c.t⟩ } (by simp only [List.getElem_set_self]; rfl)
  rw [List.set_set] at h2
  have h3 := own_set14 h2 i (by simpa using hi) 10 (by omega) (.int .i64 u.l) { x with c := ⟨u.g, u.o, u.l, x.c.d, x.c.c, x.c.t⟩ } (by simp only [List.getElem_set_self]; rfl)
  rw [List.set_set] at h3
  have h4 := own_set14 h3 i (by simpa using hi) 11 (by omega) (.int .i64 u.d) { x with c := ⟨u.g, u.o, u.l, u.d, x.c.c, x.c.t⟩ } (by simp only [List.getElem_set_self]; rfl)
  rw [List.set_set] at h4
  have h5 := own_set14 h4 i (by simpa using hi) 12 (by omega) (.int .i64 u.c) { x with c := ⟨u.g, u.o, u.l, u.d, u.c, x.c.t⟩ } (by simp only [List.getElem_set_self]; rfl)
  rw [List.set_set] at h5
  have h6 := own_set14 h5 i (by simpa using hi) 13 (by omega) (.int .i64 u.t) { x with c := ⟨u.g, u.o, u.l, u.d, u.c, u.t⟩ } (by simp only [List.getElem_set_self]; rfl)
  rw [List.set_set] at h6
  exact h6
set_option maxHeartbeats 2000000 in
set_option maxRecDepth 100000 in
theorem rload_none (w : World) (v : Value) (L : List Ln) (hL : Lns w v L) (h4 : L.length ≤ 4000) (k : Int) (a c : Ac) (hx : plc L k = none) :
    Calls Tryd.prog 28 #[v, .int .i64 k, aV a, aV c] w (RPost w L 20) := by
  have HL := Lib.hid hL
  have HP := Lib.hid (show ∀ W, Below w.heap.size w W → Calls Tryd.prog 30 #[v, .int .i64 k] W fun e w' => e = .returned (.int .i64 (-1)) ∧ W = w' from fun W hb => by have := rplace W v L (hL.below hb) (by omega) k; rw [hx] at this; exact this)
  clear hL hx
  go_enter Tryd.func28, Tryd.ntmps28
  go_wp2_with fail
  refine (HP.out _ (by repeat (first | exact Below.refl _ _ | (with_reducible assumption) | refine Below.drew ?_ | (refine Below.alloc ?_ (by first | exact Nat.le_refl _ | omega | (simp; done) | (simp; omega)) _) | (refine Below.setCell ?_ (by first | omega | (simp; done) | (simp; omega)) _)))).mono ?_
  rintro e w1 ⟨rfl, rfl⟩
  go_wp2_with fail
  go_ret2
  exact rpost_same HL.out (by repeat (first | exact Below.refl _ _ | (with_reducible assumption) | refine Below.drew ?_ | (refine Below.alloc ?_ (by first | exact Nat.le_refl _ | omega | (simp; done) | (simp; omega)) _) | (refine Below.setCell ?_ (by first | omega | (simp; done) | (simp; omega)) _)))
set_option maxHeartbeats 2000000 in
set_option maxRecDepth 100000 in
theorem rload_arg1 (w : World) (v : Value) (L : List Ln) (hL : Lns w v L) (h4 : L.length ≤ 4000) (k : Int) (a c : Ac) (i : Nat) (hx : plc L k = some i) (ha : ¬ okA a) :
    Calls Tryd.prog 28 #[v, .int .i64 k, aV a, aV c] w (RPost w (L) 1) := by
  have HL := Lib.hid hL
  have HP := Lib.hid (show ∀ W, Below w.heap.size w W → Calls Tryd.prog 30 #[v, .int .i64 k] W fun e w' => e = .returned (.int .i64 (i : Nat)) ∧ W = w' from fun W hb => by have := rplace W v L (hL.below hb) (by omega) k; rw [hx] at this; exact this)
  have HV := Lib.hid (fun W => (rmaybe W a))
  rw [decide_eq_false ha] at HV
  have hi0 : ¬ (i : Int) < 0 := by omega
  clear hL hx ha
  go_enter Tryd.func28, Tryd.ntmps28
  go_wp2_with fail
  refine (HP.out _ (by repeat (first | exact Below.refl _ _ | (with_reducible assumption) | refine Below.drew ?_ | (refine Below.alloc ?_ (by first | exact Nat.le_refl _ | omega | (simp; done) | (simp; omega)) _) | (refine Below.setCell ?_ (by first | omega | (simp; done) | (simp; omega)) _)))).mono ?_
  rintro e w1 ⟨rfl, rfl⟩
  go_wp2_with fail
  refine (HV.out _).mono ?_
  rintro e w1 ⟨rfl, hb1⟩
  have HA1 := Lib.hid (has_below (has_old (has_new _ (.cells #[.int .i64 a.g, .int .i64 a.o, .int .i64 a.l, .int .i64 a.d, .int .i64 a.c, .int .i64 a.t] 34) w.heap.size rfl) _) hb1)
  have HC1 := Lib.hid (has_below (has_new _ (.cells #[.int .i64 c.g, .int .i64 c.o, .int .i64 c.l, .int .i64 c.d, .int .i64 c.c, .int .i64 c.t] 34) (w.heap.size + 1) (by simp)) hb1)
  have HB1 := Lib.hid (bnext (show Below w.heap.size w _ from (by repeat (first | exact Below.refl _ _ | (with_reducible assumption) | refine Below.drew ?_ | (refine Below.alloc ?_ (by first | exact Nat.le_refl _ | omega | (simp; done) | (simp; omega)) _) | (refine Below.setCell ?_ (by first | omega | (simp; done) | (simp; omega)) _)))) hb1)
  clear hb1
  go_wp2_with fail
  go_ret2
  exact rpost_same HL.out HB1.out
set_option maxHeartbeats 2000000 in
set_option maxRecDepth 100000 in
theorem rload_arg2 (w : World) (v : Value) (L : List Ln) (hL : Lns w v L) (h4 : L.length ≤ 4000) (k : Int) (a c : Ac) (i : Nat) (hx : plc L k = some i) (ha : okA a) (hc : ¬ okA c) :
    Calls Tryd.prog 28 #[v, .int .i64 k, aV a, aV c] w (RPost w (L) 1) := by
  have HL := Lib.hid hL
  have HP := Lib.hid (show ∀ W, Below w.heap.size w W → Calls Tryd.prog 30 #[v, .int .i64 k] W fun e w' => e = .returned (.int .i64 (i : Nat)) ∧ W = w' from fun W hb => by have := rplace W v L (hL.below hb) (by omega) k; rw [hx] at this; exact this)
  have HV := Lib.hid (fun W => (rmaybe W a))
  rw [decide_eq_true ha] at HV
  have HV2 := Lib.hid (fun W => (rmaybe W c))
  rw [decide_eq_false hc] at HV2
  have hi0 : ¬ (i : Int) < 0 := by omega
  clear hL hx ha hc
  go_enter Tryd.func28, Tryd.ntmps28
  go_wp2_with fail
  refine (HP.out _ (by repeat (first | exact Below.refl _ _ | (with_reducible assumption) | refine Below.drew ?_ | (refine Below.alloc ?_ (by first | exact Nat.le_refl _ | omega | (simp; done) | (simp; omega)) _) | (refine Below.setCell ?_ (by first | omega | (simp; done) | (simp; omega)) _)))).mono ?_
  rintro e w1 ⟨rfl, rfl⟩
  go_wp2_with fail
  refine (HV.out _).mono ?_
  rintro e w1 ⟨rfl, hb1⟩
  have HA1 := Lib.hid (has_below (has_old (has_new _ (.cells #[.int .i64 a.g, .int .i64 a.o, .int .i64 a.l, .int .i64 a.d, .int .i64 a.c, .int .i64 a.t] 34) w.heap.size rfl) _) hb1)
  have HC1 := Lib.hid (has_below (has_new _ (.cells #[.int .i64 c.g, .int .i64 c.o, .int .i64 c.l, .int .i64 c.d, .int .i64 c.c, .int .i64 c.t] 34) (w.heap.size + 1) (by simp)) hb1)
  have HB1 := Lib.hid (bnext (show Below w.heap.size w _ from (by repeat (first | exact Below.refl _ _ | (with_reducible assumption) | refine Below.drew ?_ | (refine Below.alloc ?_ (by first | exact Nat.le_refl _ | omega | (simp; done) | (simp; omega)) _) | (refine Below.setCell ?_ (by first | omega | (simp; done) | (simp; omega)) _)))) hb1)
  clear hb1
  obtain ⟨c0, c1, c2, c3, c4, c5⟩ := acc6 (a := c) HC1.out
  go_wp2_with fail
  refine (HV2.out _).mono ?_
  rintro e w2 ⟨rfl, hb2⟩
  have HA2 := Lib.hid (has_below HA1.out hb2)
  have HC2 := Lib.hid (has_below HC1.out hb2)
  have HB2 := Lib.hid (bnext HB1.out hb2)
  clear hb2 c0 c1 c2 c3 c4 c5
  go_wp2_with fail
  go_ret2
  exact rpost_same HL.out HB2.out
set_option maxHeartbeats 2000000 in
set_option maxRecDepth 100000 in
theorem rload_ok (w : World) (v : Value) (L : List Ln) (hL : Lns w v L) (h4 : L.length ≤ 4000) (k : Int) (a c : Ac) (i : Nat) (hx : plc L k = some i) (hi : i < L.length) (ha : okA a) (hc : okA c) :
    Calls Tryd.prog 28 #[v, .int .i64 k, aV a, aV c] w (RPost w (L.set i { L[i] with a := a, c := c }) 0) := by
  have HL := Lib.hid hL
  have HP := Lib.hid (show ∀ W, Below w.heap.size w W → Calls Tryd.prog 30 #[v, .int .i64 k] W fun e w' => e = .returned (.int .i64 (i : Nat)) ∧ W = w' from fun W hb => by have := rplace W v L (hL.below hb) (by omega) k; rw [hx] at this; exact this)
  have HV := Lib.hid (fun W => (rmaybe W a))
  rw [decide_eq_true ha] at HV
  have HV2 := Lib.hid (fun W => (rmaybe W c))
  rw [decide_eq_true hc] at HV2
  have hi0 : ¬ (i : Int) < 0 := by omega
  have HC := Lib.hid (fun W (hb : Below w.heap.size w W) => rcopy W v L (hL.below hb) (by omega))
  have hil' : (i : Int) < (L.length : Int) := by omega
  clear hL hx ha hc
  go_enter Tryd.func28, Tryd.ntmps28
  go_wp2_with fail
  refine (HP.out _ (by repeat (first | exact Below.refl _ _ | (with_reducible assumption) | refine Below.drew ?_ | (refine Below.alloc ?_ (by first | exact Nat.le_refl _ | omega | (simp; done) | (simp; omega)) _) | (refine Below.setCell ?_ (by first | omega | (simp; done) | (simp; omega)) _)))).mono ?_
  rintro e w1 ⟨rfl, rfl⟩
  go_wp2_with fail
  refine (HV.out _).mono ?_
  rintro e w1 ⟨rfl, hb1⟩
  have HA1 := Lib.hid (has_below (has_old (has_new _ (.cells #[.int .i64 a.g, .int .i64 a.o, .int .i64 a.l, .int .i64 a.d, .int .i64 a.c, .int .i64 a.t] 34) w.heap.size rfl) _) hb1)
  have HC1 := Lib.hid (has_below (has_new _ (.cells #[.int .i64 c.g, .int .i64 c.o, .int .i64 c.l, .int .i64 c.d, .int .i64 c.c, .int .i64 c.t] 34) (w.heap.size + 1) (by simp)) hb1)
  have HB1 := Lib.hid (bnext (show Below w.heap.size w _ from (by repeat (first | exact Below.refl _ _ | (with_reducible assumption) | refine Below.drew ?_ | (refine Below.alloc ?_ (by first | exact Nat.le_refl _ | omega | (simp; done) | (simp; omega)) _) | (refine Below.setCell ?_ (by first | omega | (simp; done) | (simp; omega)) _)))) hb1)
  clear hb1
  obtain ⟨c0, c1, c2, c3, c4, c5⟩ := acc6 (a := c) HC1.out
  go_wp2_with fail
  refine (HV2.out _).mono ?_
  rintro e w2 ⟨rfl, hb2⟩
  have HA2 := Lib.hid (has_below HA1.out hb2)
  have HC2 := Lib.hid (has_below HC1.out hb2)
  have HB2 := Lib.hid (bnext HB1.out hb2)
  clear hb2 c0 c1 c2 c3 c4 c5
  go_wp2_with fail
  refine (HC.out w2 HB2.out).mono ?_
  rintro e w3 ⟨p1, cap1, rfl, ho1, hb3⟩
  obtain ⟨g1, cap2, e1, hlc1, hge, hg1⟩ := own_block2 ho1 (by omega)
  cases e1
  have HB3 := Lib.hid (bnext HB2.out hb3)
  have HO := Lib.hid ho1
  have hfz := fun j => World.ownsRow.frozenAt ho1 j
  have hn1 : w.heap.size < g1 := by have := has_lt HA2.out; omega
  have hn2 : w.heap.size + 1 < g1 := by have := has_lt HC2.out; omega
  have hn3 : g1 ≠ w.heap.size := by omega
  have hn4 : g1 ≠ w.heap.size + 1 := by omega
  obtain ⟨a0, a1, a2, a3, a4, a5⟩ := acc6 (a := a) (has_below HA2.out hb3)
  obtain ⟨c0, c1, c2, c3, c4, c5⟩ := acc6 (a := c) (has_below HC2.out hb3)
  obtain ⟨b0, b1, b2, b3, b4, b5, b6, b7, b8, b9, b10, b11, b12, b13⟩ := own_at14 ho1 rfl i hi
  have HS := Lib.hid (own_setC (own_setA ho1 i hi L[i] rfl a) i (by simpa using hi) { L[i] with a := a } (by simp) c)
  rw [List.set_set] at HS
  clear ho1 hb3
  go_wp2_with fail
  go_ret2
  refine ⟨_, rfl, ?_, ?_⟩
  · unfold Lns
    rw [List.length_set]
    exact own_base2 HS.out (Nat.zero_le _)
  · iterate 12 (refine Below.setCell ?_ (by simp only []; omega) _)
    exact HB3.out
theorem rload (w : World) (v : Value) (L : List Ln) (hL : Lns w v L) (h4 : L.length ≤ 4000) (hn : Nd L) (k : Int) (a c : Ac) :
    Calls Tryd.prog 28 #[v, .int .i64 k, aV a, aV c] w (RPost w (loadB L k a c) (loadE L k a c)) := by
  unfold loadB
  cases hx : plc L k with
  | none =>
    have hE : loadE L k a c = 20 := if_pos (plc_none hx).1
    rw [hE, if_neg (by decide)]
    exact rload_none w v L hL h4 k a c hx
  | some i =>
    obtain ⟨hi, _, hg, _⟩ := plc_some hx
    have hne : ¬ getB L k = none := by rw [hg]; simp
    by_cases ha : okA a
    · by_cases hc : okA c
      · have hE : loadE L k a c = 0 := by unfold loadE; rw [if_neg hne, if_neg (fun hh => hh ⟨ha, hc⟩)]
        rw [hE, if_pos rfl, (upd_set hn hx _).2]
        exact rload_ok w v L hL h4 k a c i hx hi ha hc
      · have hE : loadE L k a c = 1 := by unfold loadE; rw [if_neg hne, if_pos (fun hh => hc hh.2)]
        rw [hE, if_neg (by decide)]
        exact rload_arg2 w v L hL h4 k a c i hx ha hc
    · have hE : loadE L k a c = 1 := by unfold loadE; rw [if_neg hne, if_pos (fun hh => ha hh.1)]
      rw [hE, if_neg (by decide)]
      exact rload_arg1 w v L hL h4 k a c i hx ha
end Go.Proofs.YtdbfjcdglcagaaaDoor
