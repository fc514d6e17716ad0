/- The document's own Room: by halving, what a division tells; no condition but those that each row names. -/
import Derived.Test.YtilbohjkkdkdiaaGRefA
import Derived.Test.YtilbohjkkdkdiaaGSum
namespace Go.Proofs.Ytilbohjkkdkdiaa
open Go.RowKit

theorem rvalid_yes (q p : Int) (w : World) (h1 : 1 ≤ q) (h2 : q ≤ p) (h3 : p ≤ 1048576) : Calls Try.prog 46 #[.agg #[.int .i64 q, .int .i64 p]] w fun e w' => e = .returned (.int .i64 0) ∧ Below w.heap.size w w' := by
  have y0 : decide (q < 1) = false := decide_eq_false (by omega)
  have y1 : decide (1048576 < p) = false := decide_eq_false (by omega)
  have y2 : decide (p < q) = false := decide_eq_false (by omega)
  go_enter Try.func46, Try.ntmps46
  go_wp2
  go_ret
  exact ⟨rfl, (by repeat (first | exact Below.refl _ _ | (with_reducible assumption) | refine Below.drew ?_ | (refine Below.alloc ?_ (by first | exact Nat.le_refl _ | omega | (simp; done) | (simp; omega)) _) | (refine Below.setCell ?_ (by first | omega | (simp; done) | (simp; omega)) _)))⟩
theorem runits (q p : Int) (w : World) (h1 : 1 ≤ q) (h2 : q ≤ p) (h3 : p ≤ 1048576) : Calls Try.prog 47 #[.agg #[.int .i64 q, .int .i64 p]] w fun e w' => e = .returned (.int .i64 ((q * 1048576 + p - 1) / p)) ∧ Below w.heap.size w w' := by
  have z0 : 0 ≤ q * 1048576 := by omega
  have z1 : q * 1048576 ≤ 1048576 * 1048576 := by omega
  have z2 : (p == 0) = false := by simp; omega
  have z3 : 0 ≤ q * 1048576 + p - 1 := by omega
  have z4 : 0 ≤ (q * 1048576 + p - 1) / p := Int.ediv_nonneg z3 (by omega)
  have z5 : (q * 1048576 + p - 1) / p ≤ 1048576 * 1048576 + 1048576 := by
    have := Int.ediv_le_self p z3
    omega
  go_enter Try.func47, Try.ntmps47
  go_wp2
  go_ret
  exact ⟨rfl, (by repeat (first | exact Below.refl _ _ | (with_reducible assumption) | refine Below.drew ?_ | (refine Below.alloc ?_ (by first | exact Nat.le_refl _ | omega | (simp; done) | (simp; omega)) _) | (refine Below.setCell ?_ (by first | omega | (simp; done) | (simp; omega)) _)))⟩
theorem rshare01 (q p : Int) (w : World) (h1 : 1 ≤ q) (h2 : q ≤ p) (h3 : p ≤ 1048576) : Calls Try.prog 45 #[.agg #[.int .i64 q, .int .i64 p]] w fun e w' => e = .returned (.tuple #[.int .i64 ((q * 1048576 + p - 1) / p), .int .i64 0]) ∧ Below w.heap.size w w' := by
  have HV := Lib.hid fun w => rvalid_yes q p w h1 h2 h3
  obtain ⟨r, hr⟩ : ∃ r, (q * 1048576 + p - 1) / p = r := ⟨_, rfl⟩
  have HU := Lib.hid fun w => runits q p w h1 h2 h3
  rw [hr] at HU ⊢
  clear hr
  go_enter Try.func45, Try.ntmps45
  go_wp2_with fail
  refine (HV.out _).mono ?_
  rintro e w1 ⟨rfl, hb1⟩
  have hbw := bnext ((Below.refl _ _).alloc (Nat.le_refl _) _) hb1
  have HB1 := Lib.hid hbw
  have hbk := (hb1.block _ (by simp)).trans (heap_alloc_new w (.cells #[.int .i64 q, .int .i64 p] 81))
  have c0 : w1.cell? ⟨w.heap.size, 0, none⟩ = some (.int .i64 q) := (cell_of_row _ _ _ _ _ _ hbk).trans rfl
  have c1 : w1.cell? ⟨w.heap.size, 1, none⟩ = some (.int .i64 p) := (cell_of_row _ _ _ _ _ _ hbk).trans rfl
  clear hb1 hbw hbk
  go_wp2_with fail
  refine (HU.out _).mono ?_
  rintro e w2 ⟨rfl, hb2⟩
  have HB2 := Lib.hid (bnext HB1.out hb2)
  clear hb2 c0 c1
  go_wp2_with fail
  go_ret2
  exact ⟨rfl, HB2.out⟩
theorem room_test (u p m : Int) (h2 : 1 ≤ p) : (m * 1048576 + p - 1) / p ≤ u ↔ m * 1048576 ≤ u * p := by
  have e1 : (u + 1) * p = u * p + p := by rw [Int.add_mul, Int.one_mul]
  constructor
  · intro h
    have := Int.lt_ediv_add_one_mul_self (m * 1048576 + p - 1) (b := p) (by omega)
    have h3 : ((m * 1048576 + p - 1) / p + 1) * p ≤ (u + 1) * p := Int.mul_le_mul_of_nonneg_right (by omega) (by omega)
    omega
  · intro h
    have := Int.ediv_lt_of_lt_mul (a := m * 1048576 + p - 1) (b := u + 1) (c := p) (by omega) (by omega)
    omega
theorem room_top (u p q : Int) (h1 : q * 1048576 ≤ u * p) (h2 : u * p < (q + 1) * 1048576) : u * p / 1048576 = q := by
  generalize u * p = m at *
  omega
theorem room_bot (u p : Int) (h0 : 0 ≤ u) (h1 : u ≤ 1048576) (h2 : 1 ≤ p) : 0 * 1048576 ≤ u * p ∧ u * p < (p + 1) * 1048576 := by
  have a := Int.mul_nonneg h0 (by omega : 0 ≤ p)
  have b : u * p ≤ 1048576 * p := Int.mul_le_mul_of_nonneg_right h1 (by omega)
  omega

set_option maxHeartbeats 2000000 in
theorem rroom_any (w : World) (v : Value) (L : List Cl) (p : Int) (h : Rd w v L) (hs : Sml L) (hsum : lsum L ≤ 1048576) :
    Calls Try.prog 34 #[v, .int .i64 p] w fun e w' => e = .returned (.int .i64 (roomV (1048576 - lsum L) p)) ∧ Below w.heap.size w w' := by
  have HS := Lib.hid (rsum_any w v L h hs)
  have hl0 := (lsum_in hs.each).1
  obtain ⟨pp, cap, rfl⟩ := h.shape
  clear h hs
  generalize lsum L = S at *
  by_cases hp : 1 ≤ p ∧ p ≤ 1048576
  · obtain ⟨hp1, hp2⟩ := hp
    have HE := Lib.hid (show roomV (1048576 - S) p = (1048576 - S) * p / 1048576 from if_pos ⟨hp1, hp2⟩)
    have HBOT := Lib.hid (room_bot (1048576 - S) p (by omega) (by omega) hp1)
    have y0 : decide (p < 1) = false := decide_eq_false (by omega)
    have y1 : decide (1048576 < p) = false := decide_eq_false (by omega)
    go_enter Try.func34, Try.ntmps34
    go_wp2_with fail
    refine HS.out.mono ?_
    rintro e w1 ⟨rfl, hb1⟩
    have HB1 := Lib.hid hb1
    clear hb1
    go_wp2_with fail
    obtain ⟨u, hu⟩ : ∃ u, 1048576 - S = u := ⟨_, rfl⟩
    rw [hu] at HE HBOT
    have hu0 : 0 ≤ u := by omega
    have hu1 : u ≤ 1048576 := by omega
    rw [hu]
    have HU := Lib.hid hu
    clear hu
    go_loopw [6, 7] (fun lo hi wr => ∃ a b : Int, 0 ≤ a ∧ a < b ∧ b ≤ p + 1 ∧ lo = .int .i64 a ∧ hi = .int .i64 b ∧ Hid (a * 1048576 ≤ u * p ∧ u * p < b * 1048576) ∧ Hid (Below w.heap.size w wr)) (fun lo hi _ => (intOf hi - intOf lo).toNat)
    case atStart => exact ⟨0, p + 1, by omega, by omega, by omega, rfl, rfl, Lib.hid (HBOT.out), HB1⟩
    case round =>
      obtain ⟨a, b, ha, hab, hb, rfl, rfl, HAB, HBW⟩ := hrel
      clear HB1
      by_cases hlt : 1 < b - a
      · obtain ⟨m, hm⟩ : ∃ m, (a + b) / 2 = m := ⟨_, rfl⟩
        have hm1 : a < m := by omega
        have hm2 : m < b := by omega
        have hm3 : m ≤ p := by omega
        have hm4 : 1 ≤ m := by omega
        obtain ⟨r, hr⟩ : ∃ r, (m * 1048576 + p - 1) / p = r := ⟨_, rfl⟩
        have HSH := Lib.hid fun w => rshare01 m p w hm4 hm3 hp2
        have HT := Lib.hid (room_test u p m hp1)
        rw [hr] at HSH HT
        clear hr
        go_wp2_with fail
        refine (HSH.out _).mono ?_
        rintro e w2 ⟨rfl, hb2⟩
        have HB2 := Lib.hid (bnext HBW.out hb2)
        clear hb2
        by_cases hru : r ≤ u
        · have HN := Lib.hid (show m * 1048576 ≤ u * p ∧ u * p < b * 1048576 from ⟨HT.out.1 hru, HAB.out.2⟩)
          have HM := Lib.hid hm
          clear hm
          go_wp2_with fail
          go_roundw
          case rel => exact ⟨m, b, by omega, by omega, by omega, by rw [HM.out], rfl, HN, HB2⟩
          case measure => simp [intOf]; omega
        · have hru' : decide (r ≤ u) = false := decide_eq_false hru
          have HN := Lib.hid (show a * 1048576 ≤ u * p ∧ u * p < m * 1048576 from ⟨HAB.out.1, by
            by_cases h : u * p < m * 1048576
            · exact h
            · exact absurd (HT.out.2 (Int.not_lt.1 h)) hru⟩)
          have HM := Lib.hid hm
          clear hm hru
          go_wp2_with fail
          go_roundw
          case rel => exact ⟨a, m, by omega, by omega, by omega, rfl, by rw [HM.out], HN, HB2⟩
          case measure => simp [intOf]; omega
      · have hg : decide (1 < b - a) = false := decide_eq_false hlt
        have HR := Lib.hid (room_top u p a HAB.out.1 (by have := HAB.out.2; have e : b = a + 1 := (by omega); rw [e] at this; exact this))
        clear hlt
        go_wp2_with fail
        go_ret
        exact ⟨ret_int (by rw [HU.out, HE.out, HR.out]), HBW.out⟩
  · have HE := Lib.hid (show roomV (1048576 - S) p = 0 from if_neg hp)
    by_cases h1 : p < 1
    · clear hp
      go_enter Try.func34, Try.ntmps34
      go_wp2
      go_ret
      exact ⟨ret_int HE.out.symm, Below.refl _ _⟩
    · have y0 : decide (p < 1) = false := decide_eq_false h1
      have y1 : 1048576 < p := by omega
      clear hp h1
      go_enter Try.func34, Try.ntmps34
      go_wp2
      go_ret
      exact ⟨ret_int HE.out.symm, Below.refl _ _⟩
end Go.Proofs.Ytilbohjkkdkdiaa
