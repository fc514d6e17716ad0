/- Which items may be: edf.Valid and the document's own; no condition but those that each row names. -/
import Derived.Test.YtfahpjilgdlhiaaWIts
namespace Go.Proofs.Ytfahpjilgdlhiaa
open Go.RowKit Edf

instance (q p : Int) : Decidable (okR q p) := by unfold okR; infer_instance
instance (n : Int) : Decidable (isT n) := by unfold isT; infer_instance
/-- An item's error; that of the first n; that of a list. -/
def itE (t : Tri) : Int := if okR t.a t.b then (if isT t.c then 0 else 1) else 2
def firstE (f : Nat → Tri) : Nat → Int
  | 0 => 0
  | n + 1 => if firstE f n = 0 then itE (f n) else firstE f n
def vE (n : Nat) (f : Nat → Tri) : Int := if 64 < n then 3 else firstE f n
theorem firstE_stop {f : Nat → Tri} {k : Nat} {e : Int} (h0 : firstE f k = 0) (h1 : itE (f k) = e) (he : e ≠ 0) : ∀ n, k < n → firstE f n = e
  | n + 1, hn => by
    simp only [firstE]
    by_cases hk : k = n
    · subst hk; rw [if_pos h0, h1]
    · rw [firstE_stop h0 h1 he n (by omega), if_neg he]
theorem firstE_next {f : Nat → Tri} {k : Nat} (h0 : firstE f k = 0) (h1 : itE (f k) = 0) : firstE f (k + 1) = 0 := by
  simp only [firstE]; rw [if_pos h0, h1]
theorem firstE_all {f : Nat → Tri} : ∀ n, firstE f n = 0 → ∀ i, i < n → itE (f i) = 0
  | n + 1, h, i, hi => by
    simp only [firstE] at h
    by_cases h0 : firstE f n = 0
    · rw [if_pos h0] at h
      by_cases e : i = n
      · subst e; exact h
      · exact firstE_all n h0 i (by omega)
    · rw [if_neg h0] at h; exact absurd h h0
theorem itE_q {t : Tri} (h : ¬ okR t.a t.b) : itE t = 2 := if_neg h
theorem itE_s {t : Tri} (h : okR t.a t.b) (h2 : ¬ isT t.c) : itE t = 1 := by unfold itE; rw [if_pos h, if_neg h2]
theorem itE_0 {t : Tri} (h : okR t.a t.b) (h2 : isT t.c) : itE t = 0 := by unfold itE; rw [if_pos h, if_pos h2]
theorem itE_ok {t : Tri} (h : itE t = 0) : okR t.a t.b ∧ isT t.c := by
  unfold itE at h
  split at h
  · split at h
    · exact ⟨‹_›, ‹_›⟩
    · cases h
  · cases h
def ErrPost (w : World) (n : Int) (e : Ending) (w' : World) : Prop := e = .returned (errV n) ∧ Below w.heap.size w w'
def IntPost (w : World) (n : Int) (e : Ending) (w' : World) : Prop := e = .returned (.int .i64 n) ∧ Below w.heap.size w w'

set_option maxHeartbeats 1000000 in
set_option maxRecDepth 100000 in
theorem valid_any (w : World) (v : Value) (n : Nat) (f : Nat → Tri) (h : Tris w v n f) : Calls Try.prog 22 #[v] w (ErrPost w (vE n f)) := by
  have HV := Lib.hid (fun w1 (hb : Below w.heap.size w w1) => h.below hb)
  obtain ⟨p, cap, rfl, hm, hdrop⟩ := h
  clear hdrop
  by_cases h64 : 64 < n
  · have e : vE n f = 3 := if_pos h64
    rw [e]
    clear e
    go_enter Try.func22, Try.ntmps22
    go_wp2_with fail
    go_ret
    exact ⟨rfl, Below.refl _ _⟩
  · have HE := Lib.hid (show vE n f = firstE f n from if_neg h64)
    have HR := Lib.hid (fun q p s w => reserve_any q p s w)
    have HY := Lib.hid (fun q p w h => valid_ok q p w h)
    have HN := Lib.hid (fun q p w h => valid_no q p w h)
    have HTY := Lib.hid (fun n w h => time_yes n w h)
    have HTN := Lib.hid (fun n w h => time_no n w h)
    go_enter Try.func22, Try.ntmps22
    go_wp2_with fail
    go_loopw [12] (fun iv wr => ∃ (k : Nat), k ≤ n ∧ iv = .int .i64 k ∧ Hid (firstE f k = 0) ∧ Hid (Below w.heap.size w wr)) (fun iv _ => n - (intOf iv).toNat)
    case atStart => exact ⟨0, Nat.zero_le _, rfl, Lib.hid rfl, Lib.hid (Below.refl _ _)⟩
    case round =>
      obtain ⟨k, hk, rfl, H0, HB⟩ := hrel
      by_cases hlt : k < n
      · have hlt' : (k : Int) < (n : Int) := by omega
        have k0 : (0 : Int) ≤ (k : Int) := by omega
        obtain ⟨_, _, hsl, _, hcs⟩ := HV.out wr HB.out
        injection hsl with hs1 hs2 hs3
        subst hs1 hs3
        obtain ⟨b, off, rfl, c0, c1, c2⟩ := hcs k hlt
        clear hcs hs2
        have HI := Lib.hid (show itE (f k) = itE ⟨(f k).a, (f k).b, (f k).c⟩ from rfl)
        generalize (f k).a = q at *
        generalize (f k).b = p at *
        generalize (f k).c = s at *
        have hbl := cell_lt c0
        go_wp2_with fail
        refine (HR.out _ _ _ _).mono ?_
        rintro e w1 ⟨rfl, hb1⟩
        have HB1 := Lib.hid (bnext (below_alloc HB.out _) hb1)
        obtain ⟨hc1, hf1⟩ := bcell hb1
        have hz1 : wr.heap.size < w1.heap.size := by have := hb1.size; simp at this; omega
        by_cases hq : okR q p
        · go_wp2_with fail
          refine (HY.out _ _ _ hq).mono ?_
          rintro e w2 ⟨rfl, hb2⟩
          have HB2 := Lib.hid (bnext HB1.out hb2)
          have c2' : w2.cell? ⟨wr.heap.size, 2, none⟩ = some (.int .i64 s) := (hb2.cell (p := ⟨wr.heap.size, 2, none⟩) hz1).trans (by go_simp)
          clear hc1 hf1 hb1 hb2
          by_cases hs : isT s
          · have HI2 := Lib.hid (firstE_next H0.out (by rw [HI.out]; exact itE_0 hq hs))
            go_wp2_with fail
            refine (HTY.out _ _ hs).mono ?_
            rintro e w3 ⟨rfl, rfl⟩
            go_wp2_with fail
            go_roundw
            case rel => exact ⟨k + 1, by omega, by go_num, HI2, HB2⟩
            case measure => simp [intOf]; omega
          · have HI2 := Lib.hid (firstE_stop H0.out (show itE (f k) = 1 by rw [HI.out]; exact itE_s hq hs) (by decide) n hlt)
            go_wp2_with fail
            refine (HTN.out _ _ hs).mono ?_
            rintro e w3 ⟨rfl, rfl⟩
            go_wp2_with fail
            go_ret
            exact ⟨by rw [HE.out, HI2.out]; rfl, HB2.out⟩
        · have HI2 := Lib.hid (firstE_stop H0.out (show itE (f k) = 2 by rw [HI.out]; exact itE_q hq) (by decide) n hlt)
          go_wp2_with fail
          refine (HN.out _ _ _ hq).mono ?_
          rintro e w2 ⟨rfl, hb2⟩
          have HB2 := Lib.hid (bnext HB1.out hb2)
          clear hc1 hf1 hb1 hb2
          go_wp2_with fail
          go_ret
          exact ⟨by rw [HE.out, HI2.out]; rfl, HB2.out⟩
      · have hge : decide (k < n) = false := decide_eq_false hlt
        obtain rfl : k = n := by omega
        clear hlt
        go_wp2_with fail
        go_ret
        exact ⟨by rw [HE.out, H0.out]; rfl, HB.out⟩

theorem rval_one (t : Tri) (w : World) : Calls Try.prog 40 #[.agg #[.int .i64 t.a, .int .i64 t.b, .int .i64 t.c]] w (IntPost w (itE t)) := by
  obtain ⟨q, p, s⟩ := t
  by_cases hq : okR q p
  · by_cases hs : isT s
    · rw [itE_0 hq hs]
      obtain ⟨h1, h2, h3⟩ := hq
      obtain ⟨h4, h5⟩ := hs
      have h6 : 1 ≤ p := by omega
      go_enter Try.func40, Try.ntmps40
      go_wp2
      go_ret
      exact ⟨rfl, (by repeat (first | exact Below.refl _ _ | (with_reducible assumption) | refine Below.drew ?_ | (refine Below.alloc ?_ (by first | exact Nat.le_refl _ | omega | (simp; done) | (simp; omega)) _) | (refine Below.setCell ?_ (by first | omega | (simp; done) | (simp; omega)) _)))⟩
    · rw [itE_s hq hs]
      obtain ⟨h1, h2, h3⟩ := hq
      have h6 : 1 ≤ p := by omega
      by_cases h4 : s < 0
      · go_enter Try.func40, Try.ntmps40
        go_wp2
        go_ret
        exact ⟨rfl, (by repeat (first | exact Below.refl _ _ | (with_reducible assumption) | refine Below.drew ?_ | (refine Below.alloc ?_ (by first | exact Nat.le_refl _ | omega | (simp; done) | (simp; omega)) _) | (refine Below.setCell ?_ (by first | omega | (simp; done) | (simp; omega)) _)))⟩
      · have h5 : 1073741824 < s := by unfold isT at hs; omega
        clear hs
        go_enter Try.func40, Try.ntmps40
        go_wp2
        go_ret
        exact ⟨rfl, (by repeat (first | exact Below.refl _ _ | (with_reducible assumption) | refine Below.drew ?_ | (refine Below.alloc ?_ (by first | exact Nat.le_refl _ | omega | (simp; done) | (simp; omega)) _) | (refine Below.setCell ?_ (by first | omega | (simp; done) | (simp; omega)) _)))⟩
  · rw [itE_q hq]
    by_cases h1 : p < 1
    · clear hq
      go_enter Try.func40, Try.ntmps40
      go_wp2
      go_ret
      exact ⟨rfl, (by repeat (first | exact Below.refl _ _ | (with_reducible assumption) | refine Below.drew ?_ | (refine Below.alloc ?_ (by first | exact Nat.le_refl _ | omega | (simp; done) | (simp; omega)) _) | (refine Below.setCell ?_ (by first | omega | (simp; done) | (simp; omega)) _)))⟩
    · by_cases h2 : 1048576 < p
      · clear hq
        go_enter Try.func40, Try.ntmps40
        go_wp2
        go_ret
        exact ⟨rfl, (by repeat (first | exact Below.refl _ _ | (with_reducible assumption) | refine Below.drew ?_ | (refine Below.alloc ?_ (by first | exact Nat.le_refl _ | omega | (simp; done) | (simp; omega)) _) | (refine Below.setCell ?_ (by first | omega | (simp; done) | (simp; omega)) _)))⟩
      · by_cases h3 : q < 1
        · clear hq
          go_enter Try.func40, Try.ntmps40
          go_wp2
          go_ret
          exact ⟨rfl, (by repeat (first | exact Below.refl _ _ | (with_reducible assumption) | refine Below.drew ?_ | (refine Below.alloc ?_ (by first | exact Nat.le_refl _ | omega | (simp; done) | (simp; omega)) _) | (refine Below.setCell ?_ (by first | omega | (simp; done) | (simp; omega)) _)))⟩
        · have h4 : p < q := by unfold okR at hq; omega
          clear hq
          go_enter Try.func40, Try.ntmps40
          go_wp2
          go_ret
          exact ⟨rfl, (by repeat (first | exact Below.refl _ _ | (with_reducible assumption) | refine Below.drew ?_ | (refine Below.alloc ?_ (by first | exact Nat.le_refl _ | omega | (simp; done) | (simp; omega)) _) | (refine Below.setCell ?_ (by first | omega | (simp; done) | (simp; omega)) _)))⟩

set_option maxHeartbeats 1000000 in
set_option maxRecDepth 100000 in
theorem rvalid_any (w : World) (v : Value) (n : Nat) (f : Nat → Tri) (h : Tris w v n f) : Calls Try.prog 23 #[v] w (IntPost w (vE n f)) := by
  have HV := Lib.hid (fun w1 (hb : Below w.heap.size w w1) => h.below hb)
  obtain ⟨p, cap, rfl, hm, hdrop⟩ := h
  clear hdrop
  by_cases h64 : 64 < n
  · have e : vE n f = 3 := if_pos h64
    rw [e]
    clear e
    go_enter Try.func23, Try.ntmps23
    go_wp2_with fail
    go_ret
    exact ⟨rfl, Below.refl _ _⟩
  · have HE := Lib.hid (show vE n f = firstE f n from if_neg h64)
    have HO := Lib.hid (fun t w => rval_one t w)
    go_enter Try.func23, Try.ntmps23
    go_wp2_with fail
    go_loopw [3] (fun iv wr => ∃ (k : Nat), k ≤ n ∧ iv = .int .i64 k ∧ Hid (firstE f k = 0) ∧ Hid (Below w.heap.size w wr)) (fun iv _ => n - (intOf iv).toNat)
    case atStart => exact ⟨0, Nat.zero_le _, rfl, Lib.hid rfl, Lib.hid (Below.refl _ _)⟩
    case round =>
      obtain ⟨k, hk, rfl, H0, HB⟩ := hrel
      by_cases hlt : k < n
      · have hlt' : (k : Int) < (n : Int) := by omega
        have k0 : (0 : Int) ≤ (k : Int) := by omega
        obtain ⟨_, _, hsl, _, hcs⟩ := HV.out wr HB.out
        injection hsl with hs1 hs2 hs3
        subst hs1 hs3
        obtain ⟨b, off, rfl, c0, c1, c2⟩ := hcs k hlt
        clear hcs hs2
        have HO1 := Lib.hid (HO.out (f k))
        by_cases he : itE (f k) = 0
        · have HI2 := Lib.hid (firstE_next H0.out he)
          rw [he] at HO1
          generalize (f k).a = q at *
          generalize (f k).b = p at *
          generalize (f k).c = s at *
          clear he
          go_wp2_with fail
          refine (HO1.out _).mono ?_
          rintro e w1 ⟨rfl, hb1⟩
          have HB1 := Lib.hid (bnext HB.out hb1)
          clear hb1
          go_wp2_with fail
          go_roundw
          case rel => exact ⟨k + 1, by omega, by go_num, HI2, HB1⟩
          case measure => simp [intOf]; omega
        · have HI2 := Lib.hid (firstE_stop H0.out rfl he n hlt)
          generalize itE (f k) = er at *
          have he' : (er == 0) = false := by rw [beq_eq_false_iff_ne]; exact he
          have he2 : (er != 0) = true := by rw [bne_iff_ne]; exact he
          generalize (f k).a = q at *
          generalize (f k).b = p at *
          generalize (f k).c = s at *
          clear he
          go_wp2_with fail
          refine (HO1.out _).mono ?_
          rintro e w1 ⟨rfl, hb1⟩
          have HB1 := Lib.hid (bnext HB.out hb1)
          clear hb1
          go_wp2_with fail
          go_ret
          exact ⟨by rw [HE.out, HI2.out]; rfl, HB1.out⟩
      · have hge : decide (k < n) = false := decide_eq_false hlt
        obtain rfl : k = n := by omega
        clear hlt
        go_wp2_with fail
        go_ret
        exact ⟨by rw [HE.out, H0.out]; rfl, HB.out⟩
end Go.Proofs.Ytfahpjilgdlhiaa
