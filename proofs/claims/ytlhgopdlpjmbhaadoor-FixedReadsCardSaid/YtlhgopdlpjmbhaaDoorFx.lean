/- The program's package fixed, function by function: what Valid, Share, Most, Compare, digit answer, for every input; no condition but those that each row names. -/
import Derived.Test.YtlhgopdlpjmbhaaDoorProg
import Derived.WalkKit
import Derived.WalkSpells
import Derived.WalkLawsBesides
import Derived.Lib.Hide
namespace Go.Proofs.YtlhgopdlpjmbhaaDoor
open Go.RowKit

/-- May a reservation be? -/
def okR (q p : Int) : Prop := 1 ≤ q ∧ q ≤ p ∧ p ≤ 1048576

/-- What lay below reads as it did. -/
theorem bcell {W w1 : World} (hb : Below W.heap.size W w1) : (∀ b o, b < W.heap.size → w1.cell? ⟨b, o, none⟩ = W.cell? ⟨b, o, none⟩) ∧ (∀ b o, b < W.heap.size → w1.frozen? ⟨b, o, none⟩ = W.frozen? ⟨b, o, none⟩) :=
  ⟨fun b o h => hb.cell (p := ⟨b, o, none⟩) h, fun b o h => hb.frozen (p := ⟨b, o, none⟩) h⟩

theorem bnext {w a b : World} (h : Below w.heap.size w a) (k : Below a.heap.size a b) : Below w.heap.size w b := h.trans (k.mono h.size)

theorem valid_ok (q p : Int) (w : World) (h : okR q p) :
    Calls Tryd.prog 12 #[.agg #[.int .i64 q, .int .i64 p]] w fun e w' => e = .returned .nilIface ∧ Below w.heap.size w w' := by
  obtain ⟨h1, h2, h3⟩ := h
  go_enter Tryd.func12, Tryd.ntmps12
  go_wp2
  go_ret
  exact ⟨rfl, (Below.refl _ _).alloc (Nat.le_refl _) _⟩

theorem valid_no (q p : Int) (w : World) (h : ¬ okR q p) :
    Calls Tryd.prog 12 #[.agg #[.int .i64 q, .int .i64 p]] w fun e w' => e = .returned (.iface 57 (.int .i64 2)) ∧ Below w.heap.size w w' := by
  by_cases h1 : q < 1
  · go_enter Tryd.func12, Tryd.ntmps12
    go_wp2
    go_ret
    exact ⟨rfl, (Below.refl _ _).alloc (Nat.le_refl _) _⟩
  · by_cases h2 : 1048576 < p
    · go_enter Tryd.func12, Tryd.ntmps12
      go_wp2
      go_ret
      exact ⟨rfl, (Below.refl _ _).alloc (Nat.le_refl _) _⟩
    · have h3 : p < q := by unfold okR at h; omega
      clear h
      go_enter Tryd.func12, Tryd.ntmps12
      go_wp2
      go_ret
      exact ⟨rfl, (Below.refl _ _).alloc (Nat.le_refl _) _⟩

/-- A share: of a reservation that may be. -/
def shareOf (q p : Int) : Int := (q * 1048576 + p - 1) / p

theorem share_no (q p : Int) (w : World) (h : ¬ okR q p) :
    Calls Tryd.prog 9 #[.agg #[.int .i64 q, .int .i64 p]] w fun e w' => e = .returned (.tuple #[.int .i64 0, .iface 57 (.int .i64 2)]) ∧ Below w.heap.size w w' := by
  go_enter Tryd.func9, Tryd.ntmps9
  go_wp2_with (go_at_call 12; refine (valid_no q p _ h).mono ?_; rintro e w1 ⟨rfl, hb⟩)
  go_ret2
  exact ⟨rfl, ((Below.refl _ _).alloc (Nat.le_refl _) _).trans (hb.mono (by simp))⟩

theorem share_ok (q p : Int) (w : World) (h : okR q p) :
    Calls Tryd.prog 9 #[.agg #[.int .i64 q, .int .i64 p]] w fun e w' => e = .returned (.tuple #[.int .i64 (shareOf q p), .nilIface]) ∧ Below w.heap.size w w' := by
  obtain ⟨h1, h2, h3⟩ := id h
  go_enter Tryd.func9, Tryd.ntmps9
  go_wp2_with (go_at_call 12; refine (valid_ok q p _ h).mono ?_; rintro e w1 ⟨rfl, hb⟩; obtain ⟨hc, hf⟩ := bcell hb)
  go_ret2
  exact ⟨rfl, ((Below.refl _ _).alloc (Nat.le_refl _) _).trans (hb.mono (by simp))⟩

theorem most_arg (u p : Int) (w : World) (h : ¬ (0 ≤ u ∧ u ≤ 1048576)) :
    Calls Tryd.prog 19 #[.int .i64 u, .int .i64 p] w fun e w' => e = .returned (.tuple #[.int .i64 0, .iface 57 (.int .i64 1)]) ∧ Below w.heap.size w w' := by
  by_cases h1 : u < 0
  · go_enter Tryd.func19, Tryd.ntmps19
    go_wp2
    go_ret2
    exact ⟨rfl, Below.refl _ _⟩
  · have h2 : 1048576 < u := by omega
    clear h
    go_enter Tryd.func19, Tryd.ntmps19
    go_wp2
    go_ret2
    exact ⟨rfl, Below.refl _ _⟩

theorem most_range (u p : Int) (w : World) (h0 : 0 ≤ u) (h9 : u ≤ 1048576) (h : ¬ (1 ≤ p ∧ p ≤ 1048576)) :
    Calls Tryd.prog 19 #[.int .i64 u, .int .i64 p] w fun e w' => e = .returned (.tuple #[.int .i64 0, .iface 57 (.int .i64 2)]) ∧ Below w.heap.size w w' := by
  by_cases h1 : p < 1
  · go_enter Tryd.func19, Tryd.ntmps19
    go_wp2
    go_ret2
    exact ⟨rfl, Below.refl _ _⟩
  · have h2 : 1048576 < p := by omega
    clear h
    go_enter Tryd.func19, Tryd.ntmps19
    go_wp2
    go_ret2
    exact ⟨rfl, Below.refl _ _⟩

theorem mul_bd (u p : Int) (h0 : 0 ≤ u) (h9 : u ≤ 1048576) (h1 : 0 ≤ p) (h2 : p ≤ 1048576) : 0 ≤ u * p ∧ u * p ≤ 1099511627776 :=
  ⟨Int.mul_nonneg h0 h1, Int.le_trans (Int.mul_le_mul h9 h2 h1 (by omega)) (by omega)⟩

theorem most_ok (u p : Int) (w : World) (h0 : 0 ≤ u) (h9 : u ≤ 1048576) (h1 : 1 ≤ p) (h2 : p ≤ 1048576) :
    Calls Tryd.prog 19 #[.int .i64 u, .int .i64 p] w fun e w' => e = .returned (.tuple #[.int .i64 (u * p / 1048576), .nilIface]) ∧ Below w.heap.size w w' := by
  obtain ⟨m1, m2⟩ := mul_bd u p h0 h9 (by omega) h2
  go_enter Tryd.func19, Tryd.ntmps19
  go_wp2
  go_ret2
  exact ⟨rfl, Below.refl _ _⟩

theorem isNaN_int (a : Int) (w : World) : Calls Tryd.prog 40 #[.int .i64 a] w fun e w' => e = .returned (.bool false) ∧ w = w' := by
  go_enter Tryd.func40, Tryd.ntmps40
  go_wp2
  go_ret
  exact ⟨by simp, rfl⟩

/-- Below, alike, above. -/
def cmpI (a b : Int) : Int := if a < b then -1 else if b < a then 1 else 0

theorem cmp_int (a b : Int) (w : World) : Calls Tryd.prog 31 #[.int .i64 a, .int .i64 b] w fun e w' => e = .returned (.int .i64 (cmpI a b)) ∧ w = w' := by
  rcases Int.lt_trichotomy a b with h | h | h
  · have hv : cmpI a b = -1 := if_pos h
    rw [hv]
    clear hv
    go_enter Tryd.func31, Tryd.ntmps31
    go_wp2_with (go_at_call 40; refine (isNaN_int _ _).mono ?_; rintro e w1 ⟨rfl, rfl⟩)
    go_ret
    exact ⟨rfl, rfl⟩
  · subst h
    have hv : cmpI a a = 0 := by simp [cmpI]
    rw [hv]
    clear hv
    go_enter Tryd.func31, Tryd.ntmps31
    go_wp2_with (go_at_call 40; refine (isNaN_int _ _).mono ?_; rintro e w1 ⟨rfl, rfl⟩)
    go_ret
    exact ⟨rfl, rfl⟩
  · have hv : cmpI a b = 1 := by unfold cmpI; rw [if_neg (by omega), if_pos h]
    rw [hv]
    clear hv
    go_enter Tryd.func31, Tryd.ntmps31
    go_wp2_with (go_at_call 40; refine (isNaN_int _ _).mono ?_; rintro e w1 ⟨rfl, rfl⟩)
    go_ret
    exact ⟨rfl, rfl⟩

theorem compare_ok (q p r s : Int) (w : World) (h : okR q p) (g : okR r s) :
    Calls Tryd.prog 21 #[.agg #[.int .i64 q, .int .i64 p], .agg #[.int .i64 r, .int .i64 s]] w fun e w' => e = .returned (.tuple #[.int .i64 (cmpI (q * s) (r * p)), .nilIface]) ∧ Below w.heap.size w w' := by
  obtain ⟨h1, h2, h3⟩ := id h
  obtain ⟨g1, g2, g3⟩ := id g
  obtain ⟨m1, m2⟩ := mul_bd q s (by omega) (by omega) (by omega) (by omega)
  obtain ⟨n1, n2⟩ := mul_bd r p (by omega) (by omega) (by omega) (by omega)
  go_enter Tryd.func21, Tryd.ntmps21
  go_wp2_with fail
  refine (valid_ok q p _ h).mono ?_
  rintro e w1 ⟨rfl, hb⟩
  obtain ⟨hc, hf⟩ := bcell hb
  go_wp2_with fail
  refine (valid_ok r s _ g).mono ?_
  rintro e w2 ⟨rfl, hb2⟩
  obtain ⟨hc2, hf2⟩ := bcell hb2
  have hz : w.heap.size + 1 < w1.heap.size := by have := hb.size; simp at this; omega
  have hz' : w.heap.size < w1.heap.size := by omega
  go_wp2_with (go_at_call 31; refine (cmp_int _ _ _).mono ?_; rintro e w1 ⟨rfl, rfl⟩)
  go_ret2
  exact ⟨rfl, ((((Below.refl _ _).alloc (Nat.le_refl _) _).alloc (by simp) _).trans (hb.mono (by simp; omega))).trans (hb2.mono (by omega))⟩

theorem compare_no (q p r s : Int) (w : World) (h : ¬ (okR q p ∧ okR r s)) :
    Calls Tryd.prog 21 #[.agg #[.int .i64 q, .int .i64 p], .agg #[.int .i64 r, .int .i64 s]] w fun e w' => e = .returned (.tuple #[.int .i64 0, .iface 57 (.int .i64 2)]) ∧ Below w.heap.size w w' := by
  by_cases g : okR q p
  · have g2 : ¬ okR r s := fun k => h ⟨g, k⟩
    clear h
    go_enter Tryd.func21, Tryd.ntmps21
    go_wp2_with fail
    refine (valid_ok q p _ g).mono ?_
    rintro e w1 ⟨rfl, hb⟩
    obtain ⟨hc, hf⟩ := bcell hb
    go_wp2_with fail
    refine (valid_no r s _ g2).mono ?_
    rintro e w2 ⟨rfl, hb2⟩
    have hz : w.heap.size + 1 < w1.heap.size := by have := hb.size; simp at this; omega
    go_wp2_with fail
    go_ret2
    exact ⟨rfl, ((((Below.refl _ _).alloc (Nat.le_refl _) _).alloc (by simp) _).trans (hb.mono (by simp; omega))).trans (hb2.mono (by omega))⟩
  · clear h
    go_enter Tryd.func21, Tryd.ntmps21
    go_wp2_with fail
    refine (valid_no q p _ g).mono ?_
    rintro e w1 ⟨rfl, hb⟩
    go_wp2_with fail
    go_ret2
    exact ⟨rfl, ((((Below.refl _ _).alloc (Nat.le_refl _) _).alloc (by simp) _).trans (hb.mono (by simp; omega)))⟩

theorem digit_any (n : Int) (w : World) (h1 : 0 ≤ n) (h2 : n ≤ 9) :
    Calls Tryd.prog 41 #[.int .i64 n] w fun e w' => e = .returned (.int .u8 (48 + n)) ∧ w = w' := by
  go_enter Tryd.func41, Tryd.ntmps41
  go_wp2
  go_ret
  exact ⟨rfl, rfl⟩
end Go.Proofs.YtlhgopdlpjmbhaaDoor
