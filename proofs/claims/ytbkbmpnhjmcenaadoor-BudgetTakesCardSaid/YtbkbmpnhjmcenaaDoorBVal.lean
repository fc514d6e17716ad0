/- The program's package budget: whether a budget may be: mayPend, Valid, for every budget; no condition. -/
import Derived.Test.YtbkbmpnhjmcenaaDoorBFx
import Derived.RegionTactic
import Derived.IntWalk
import Derived.Deep.QuietTactic
import Derived.BigQuiet
namespace Go.Proofs.YtbkbmpnhjmcenaaDoor
open Go.RowKit

/-- May a reservation be pending beside another one? -/
def pendR (nq np q p : Int) : Prop := (nq = 0 ∧ np = 0) ∨ (okR nq np ∧ ¬ (nq = q ∧ np = p))

theorem pend_zero (q p : Int) (w : World) :
    Calls Tryd.prog 25 #[.agg #[.int .i64 0, .int .i64 0], .agg #[.int .i64 q, .int .i64 p]] w fun e w' => e = .returned (.bool true) ∧ Below w.heap.size w w' := by
  go_enter Tryd.func25, Tryd.ntmps25
  go_wp2
  go_ret
  exact ⟨rfl, ((Below.refl _ _).alloc (Nat.le_refl _) _).alloc (by simp) _⟩
theorem pend_ok (nq np q p : Int) (w : World) (h : okR nq np) (g : ¬ (nq = q ∧ np = p)) :
    Calls Tryd.prog 25 #[.agg #[.int .i64 nq, .int .i64 np], .agg #[.int .i64 q, .int .i64 p]] w fun e w' => e = .returned (.bool true) ∧ Below w.heap.size w w' := by
  have hz : (nq == 0) = false := by have := h.1; simp; omega
  have HV := Lib.hid h
  clear h
  have hB : Below w.heap.size w ((w.alloc (.cells #[.int .i64 nq, .int .i64 np] 23)).alloc (.cells #[.int .i64 q, .int .i64 p] 23)) := ((Below.refl _ _).alloc (Nat.le_refl _) _).alloc (by simp) _
  by_cases e : nq = q
  · have e2 : ¬ np = p := fun k => g ⟨e, k⟩
    obtain rfl := e
    have h2 : (np == p) = false := by simpa using e2
    clear g e2
    go_enter Tryd.func25, Tryd.ntmps25
    go_wp2_with fail
    refine (valid_ok nq np _ HV.out).mono ?_
    rintro e w1 ⟨rfl, hb⟩
    obtain ⟨hc, hf⟩ := bcell hb
    go_wp2_with fail
    go_ret
    exact ⟨rfl, bnext hB hb⟩
  · have h1 : (nq == q) = false := by simpa using e
    clear g e
    go_enter Tryd.func25, Tryd.ntmps25
    go_wp2_with fail
    refine (valid_ok nq np _ HV.out).mono ?_
    rintro e w1 ⟨rfl, hb⟩
    obtain ⟨hc, hf⟩ := bcell hb
    go_wp2_with fail
    go_ret
    exact ⟨rfl, bnext hB hb⟩
theorem pend_same (q p : Int) (w : World) (h : okR q p) :
    Calls Tryd.prog 25 #[.agg #[.int .i64 q, .int .i64 p], .agg #[.int .i64 q, .int .i64 p]] w fun e w' => e = .returned (.bool false) ∧ Below w.heap.size w w' := by
  have hz : (q == 0) = false := by have := h.1; simp; omega
  have HV := Lib.hid h
  clear h
  have hB : Below w.heap.size w ((w.alloc (.cells #[.int .i64 q, .int .i64 p] 23)).alloc (.cells #[.int .i64 q, .int .i64 p] 23)) := ((Below.refl _ _).alloc (Nat.le_refl _) _).alloc (by simp) _
  go_enter Tryd.func25, Tryd.ntmps25
  go_wp2_with fail
  refine (valid_ok q p _ HV.out).mono ?_
  rintro e w1 ⟨rfl, hb⟩
  obtain ⟨hc, hf⟩ := bcell hb
  go_wp2_with fail
  go_ret
  exact ⟨rfl, bnext hB hb⟩
theorem pend_bad (nq np q p : Int) (w : World) (h : ¬ okR nq np) (g : ¬ (nq = 0 ∧ np = 0)) :
    Calls Tryd.prog 25 #[.agg #[.int .i64 nq, .int .i64 np], .agg #[.int .i64 q, .int .i64 p]] w fun e w' => e = .returned (.bool false) ∧ Below w.heap.size w w' := by
  have HV := Lib.hid h
  clear h
  have hB : Below w.heap.size w ((w.alloc (.cells #[.int .i64 nq, .int .i64 np] 23)).alloc (.cells #[.int .i64 q, .int .i64 p] 23)) := ((Below.refl _ _).alloc (Nat.le_refl _) _).alloc (by simp) _
  by_cases e : nq = 0
  · have e2 : ¬ np = 0 := fun k => g ⟨e, k⟩
    subst e
    have h2 : (np == 0) = false := by simpa using e2
    clear g e2
    go_enter Tryd.func25, Tryd.ntmps25
    go_wp2_with fail
    refine (valid_no 0 np _ HV.out).mono ?_
    rintro e w1 ⟨rfl, hb⟩
    go_wp2_with fail
    go_ret
    exact ⟨rfl, bnext hB hb⟩
  · have h1 : (nq == 0) = false := by simpa using e
    clear g e
    go_enter Tryd.func25, Tryd.ntmps25
    go_wp2_with fail
    refine (valid_no nq np _ HV.out).mono ?_
    rintro e w1 ⟨rfl, hb⟩
    go_wp2_with fail
    go_ret
    exact ⟨rfl, bnext hB hb⟩

theorem pend_yes (nq np q p : Int) (w : World) (h : pendR nq np q p) :
    Calls Tryd.prog 25 #[.agg #[.int .i64 nq, .int .i64 np], .agg #[.int .i64 q, .int .i64 p]] w fun e w' => e = .returned (.bool true) ∧ Below w.heap.size w w' := by
  rcases h with ⟨rfl, rfl⟩ | ⟨h, g⟩
  · exact pend_zero q p w
  · exact pend_ok nq np q p w h g
theorem pend_no (nq np q p : Int) (w : World) (h : ¬ pendR nq np q p) :
    Calls Tryd.prog 25 #[.agg #[.int .i64 nq, .int .i64 np], .agg #[.int .i64 q, .int .i64 p]] w fun e w' => e = .returned (.bool false) ∧ Below w.heap.size w w' := by
  unfold pendR at h
  by_cases k : okR nq np
  · by_cases e : nq = q ∧ np = p
    · obtain ⟨rfl, rfl⟩ := e
      exact pend_same nq np w k
    · exact absurd (.inr ⟨k, e⟩) h
  · exact pend_bad nq np q p w k (fun e => h (.inl e))

/-- May a budget be? -/
structure okB (q p nq np l s e : Int) : Prop where
  now : okR q p
  next : pendR nq np q p
  l0 : 0 ≤ l
  lq : l ≤ q
  s0 : 0 ≤ s
  s1 : s ≤ 1073741824
  ee : e = s + p

set_option maxHeartbeats 1000000 in
theorem bvalid_ok (q p nq np : Int) (d : Bool) (l s e : Int) (w : World) (h : okB q p nq np l s e) :
    Calls Tryd.prog 15 #[.agg #[.int .i64 q, .int .i64 p, .int .i64 nq, .int .i64 np, .bool d, .int .i64 l, .int .i64 s, .int .i64 e]] w fun e w' => e = .returned .nilIface ∧ Below w.heap.size w w' := by
  obtain ⟨h1, h2, h3, h4, h5, h6, rfl⟩ := h
  obtain ⟨k1, k2, k3⟩ := id h1
  have H1 := Lib.hid h1
  have H2 := Lib.hid h2
  clear h1 h2
  go_enter Tryd.func15, Tryd.ntmps15
  go_wp2_with fail
  refine (valid_ok q p _ H1.out).mono ?_
  rintro e w1 ⟨rfl, hb⟩
  obtain ⟨hc, hf⟩ := bcell hb
  have hz : w.heap.size < w1.heap.size := by have := hb.size; simp at this; omega
  go_wp2_with fail
  refine (pend_yes nq np q p _ H2.out).mono ?_
  rintro e w2 ⟨rfl, hb2⟩
  obtain ⟨hc2, hf2⟩ := bcell hb2
  go_wp2_with fail
  go_ret
  exact ⟨rfl, bnext (bnext ((Below.refl _ _).alloc (Nat.le_refl _) _) hb) hb2⟩

set_option maxHeartbeats 1000000 in
theorem bvalid_no (q p nq np : Int) (d : Bool) (l s e : Int) (w : World) (h : ¬ okB q p nq np l s e) :
    Calls Tryd.prog 15 #[.agg #[.int .i64 q, .int .i64 p, .int .i64 nq, .int .i64 np, .bool d, .int .i64 l, .int .i64 s, .int .i64 e]] w fun e w' => e = .returned (.iface 49 (.int .i64 270)) ∧ Below w.heap.size w w' := by
  by_cases h1 : okR q p
  · have H1 := Lib.hid h1
    by_cases h2 : pendR nq np q p
    · have H2 := Lib.hid h2
      have h' : ¬ (0 ≤ l ∧ l ≤ q ∧ 0 ≤ s ∧ s ≤ 1073741824 ∧ e = s + p) := fun ⟨a, b, c, d, e⟩ => h ⟨h1, h2, a, b, c, d, e⟩
      obtain ⟨k1, k2, k3⟩ := h1
      clear h h2
      by_cases g1 : l < 0
      · clear h'
        go_enter Tryd.func15, Tryd.ntmps15
        go_wp2_with fail
        refine (valid_ok q p _ H1.out).mono ?_
        rintro e w1 ⟨rfl, hb⟩
        obtain ⟨hc, hf⟩ := bcell hb
        have hz : w.heap.size < w1.heap.size := by have := hb.size; simp at this; omega
        go_wp2_with fail
        refine (pend_yes nq np q p _ H2.out).mono ?_
        rintro e w2 ⟨rfl, hb2⟩
        obtain ⟨hc2, hf2⟩ := bcell hb2
        go_wp2_with fail
        go_ret
        exact ⟨rfl, bnext (bnext ((Below.refl _ _).alloc (Nat.le_refl _) _) hb) hb2⟩
      · by_cases g2 : q < l
        · clear h'
          go_enter Tryd.func15, Tryd.ntmps15
          go_wp2_with fail
          refine (valid_ok q p _ H1.out).mono ?_
          rintro e w1 ⟨rfl, hb⟩
          obtain ⟨hc, hf⟩ := bcell hb
          have hz : w.heap.size < w1.heap.size := by have := hb.size; simp at this; omega
          go_wp2_with fail
          refine (pend_yes nq np q p _ H2.out).mono ?_
          rintro e w2 ⟨rfl, hb2⟩
          obtain ⟨hc2, hf2⟩ := bcell hb2
          go_wp2_with fail
          go_ret
          exact ⟨rfl, bnext (bnext ((Below.refl _ _).alloc (Nat.le_refl _) _) hb) hb2⟩
        · by_cases g3 : s < 0
          · clear h'
            go_enter Tryd.func15, Tryd.ntmps15
            go_wp2_with fail
            refine (valid_ok q p _ H1.out).mono ?_
            rintro e w1 ⟨rfl, hb⟩
            obtain ⟨hc, hf⟩ := bcell hb
            have hz : w.heap.size < w1.heap.size := by have := hb.size; simp at this; omega
            go_wp2_with fail
            refine (pend_yes nq np q p _ H2.out).mono ?_
            rintro e w2 ⟨rfl, hb2⟩
            obtain ⟨hc2, hf2⟩ := bcell hb2
            go_wp2_with fail
            go_ret
            exact ⟨rfl, bnext (bnext ((Below.refl _ _).alloc (Nat.le_refl _) _) hb) hb2⟩
          · by_cases g4 : 1073741824 < s
            · clear h'
              go_enter Tryd.func15, Tryd.ntmps15
              go_wp2_with fail
              refine (valid_ok q p _ H1.out).mono ?_
              rintro e w1 ⟨rfl, hb⟩
              obtain ⟨hc, hf⟩ := bcell hb
              have hz : w.heap.size < w1.heap.size := by have := hb.size; simp at this; omega
              go_wp2_with fail
              refine (pend_yes nq np q p _ H2.out).mono ?_
              rintro e w2 ⟨rfl, hb2⟩
              obtain ⟨hc2, hf2⟩ := bcell hb2
              go_wp2_with fail
              go_ret
              exact ⟨rfl, bnext (bnext ((Below.refl _ _).alloc (Nat.le_refl _) _) hb) hb2⟩
            · have g5 : ¬ e = s + p := by omega
              have g6 : (e == s + p) = false := by simpa using g5
              have g7 : (e != s + p) = true := by simpa using g5
              have g8 : 0 ≤ s := by omega
              have g9 : s ≤ 1073741824 := by omega
              clear h' g5
              go_enter Tryd.func15, Tryd.ntmps15
              go_wp2_with fail
              refine (valid_ok q p _ H1.out).mono ?_
              rintro e w1 ⟨rfl, hb⟩
              obtain ⟨hc, hf⟩ := bcell hb
              have hz : w.heap.size < w1.heap.size := by have := hb.size; simp at this; omega
              go_wp2_with fail
              refine (pend_yes nq np q p _ H2.out).mono ?_
              rintro e w2 ⟨rfl, hb2⟩
              obtain ⟨hc2, hf2⟩ := bcell hb2
              go_wp2_with fail
              go_ret
              exact ⟨rfl, bnext (bnext ((Below.refl _ _).alloc (Nat.le_refl _) _) hb) hb2⟩
    · have H2 := Lib.hid h2
      clear h h1 h2
      go_enter Tryd.func15, Tryd.ntmps15
      go_wp2_with fail
      refine (valid_ok q p _ H1.out).mono ?_
      rintro e w1 ⟨rfl, hb⟩
      obtain ⟨hc, hf⟩ := bcell hb
      have hz : w.heap.size < w1.heap.size := by have := hb.size; simp at this; omega
      go_wp2_with fail
      refine (pend_no nq np q p _ H2.out).mono ?_
      rintro e w2 ⟨rfl, hb2⟩
      go_wp2_with fail
      go_ret
      exact ⟨rfl, bnext (bnext ((Below.refl _ _).alloc (Nat.le_refl _) _) hb) hb2⟩
  · have H1 := Lib.hid h1
    clear h h1
    go_enter Tryd.func15, Tryd.ntmps15
    go_wp2_with fail
    refine (valid_no q p _ H1.out).mono ?_
    rintro e w1 ⟨rfl, hb⟩
    go_wp2_with fail
    go_ret
    exact ⟨rfl, bnext ((Below.refl _ _).alloc (Nat.le_refl _) _) hb⟩
end Go.Proofs.YtbkbmpnhjmcenaaDoor
