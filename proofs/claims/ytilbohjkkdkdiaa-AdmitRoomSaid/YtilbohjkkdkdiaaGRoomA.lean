/- What AdmitRoom asks: the greatest budget, its share rounded up; Add at the slot 63; no condition but those that each row names. -/
import Derived.Test.YtilbohjkkdkdiaaGLawA
namespace Go.Proofs.Ytilbohjkkdkdiaa
open Go.RowKit

theorem room_math (u p q : Int) (h0 : 0 ≤ u) (h1 : u ≤ 1048576) (h2 : 1 ≤ p) (h3 : p ≤ 1048576) (hq : u * p / 1048576 = q) :
    0 ≤ q ∧ q ≤ p ∧ (1 ≤ q → 1 ≤ (q * 1048576 + p - 1) / p ∧ (q * 1048576 + p - 1) / p ≤ u) ∧ (q + 1 ≤ p → u < ((q + 1) * 1048576 + p - 1) / p ∧ ((q + 1) * 1048576 + p - 1) / p ≤ 1048576) := by
  have hm0 : 0 ≤ u * p := Int.mul_nonneg h0 (by omega)
  have hm1 : u * p ≤ 1048576 * p := Int.mul_le_mul_of_nonneg_right h1 (by omega)
  have e1 : (u + 1) * p = u * p + p := by rw [Int.add_mul, Int.one_mul]
  generalize u * p = m at *
  have a1 : q * 1048576 ≤ m := by omega
  have a2 : m < q * 1048576 + 1048576 := by omega
  refine ⟨by omega, by omega, fun hq1 => ⟨Int.le_ediv_of_mul_le (by omega) (by omega), ?_⟩, fun hq1 => ⟨?_, ?_⟩⟩
  · have := Int.ediv_lt_of_lt_mul (a := q * 1048576 + p - 1) (b := u + 1) (c := p) (by omega) (by omega)
    omega
  · have := Int.le_ediv_of_mul_le (a := u + 1) (b := (q + 1) * 1048576 + p - 1) (c := p) (by omega) (by omega)
    omega
  · have := Int.ediv_lt_of_lt_mul (a := (q + 1) * 1048576 + p - 1) (b := 1048576 + 1) (c := p) (by omega) (by omega)
    omega
theorem up_any (q p : Int) (w : World) (h0 : 0 ≤ q) (h1 : q ≤ 1048577) (h2 : 1 ≤ p) (h3 : p ≤ 1048576) : Calls Try.prog 27 #[.int .i64 q, .int .i64 p] w fun e w' => e = .returned (.int .i64 ((q * 1048576 + p - 1) / p)) ∧ w = w' := by
  have z0 : 0 ≤ q * 1048576 := by omega
  have z1 : q * 1048576 ≤ 1048577 * 1048576 := by omega
  have z2 : (p == 0) = false := by simp; omega
  have z3 : 0 ≤ q * 1048576 + p - 1 := by omega
  have z4 : 0 ≤ (q * 1048576 + p - 1) / p := Int.ediv_nonneg z3 (by omega)
  have z5 : (q * 1048576 + p - 1) / p ≤ 1048577 * 1048576 + 1048576 := by
    have := Int.ediv_le_self p z3
    omega
  go_enter Try.func27, Try.ntmps27
  go_wp2
  go_ret
  exact ⟨rfl, rfl⟩
theorem add63_ok (t : Nat) (f : Nat → Cl) (n : Int) (w : World) (hb : BK BT w t f) (hG : Good f) (hz : f 63 = zc) (h1 : 1 ≤ n) (h2 : sumTo f 64 + n ≤ 1048576) :
    Calls Try.prog 20 #[.pointer (some ⟨t, 0, none⟩), .int .i64 63, .int .i64 n] w (Turns t (addF f 63 n) .nilIface w) := by
  have h := add_any t f 63 n w hb hG
  have hp := hG.pos
  have he : addE f 63 n = 0 := by
    rcases addS hG (k := 63) (by omega) n h1 (by omega) with ⟨h, _⟩ | ⟨_, _, _, h⟩ | ⟨_, h, _⟩
    · rw [hz] at h; simp [zc] at h
    · omega
    · exact h
  rw [he] at h; exact h
theorem add63_no (t : Nat) (f : Nat → Cl) (n : Int) (w : World) (hb : BK BT w t f) (hG : Good f) (hz : f 63 = zc) (h1 : n ≤ 1048576) (h2 : 1048576 < sumTo f 64 + n) :
    Calls Try.prog 20 #[.pointer (some ⟨t, 0, none⟩), .int .i64 63, .int .i64 n] w (Turns t (addF f 63 n) (.iface 69 (.int .i64 80)) w) := by
  have h := add_any t f 63 n w hb hG
  have hs := hG.sum
  have he : addE f 63 n = 80 := by
    rcases addS hG (k := 63) (by omega) n (by omega) h1 with ⟨h, _⟩ | ⟨_, h, _⟩ | ⟨_, _, h⟩
    · rw [hz] at h; simp [zc] at h
    · exact h
    · omega
  rw [he] at h; exact h
theorem add_63 {f : Nat → Cl} (hG : Good f) {s : Nat} (hs : s < 60) (n : Int) (hz : f 63 = zc) : addF f s n 63 = zc := by
  have hw := add_way hG s n
  generalize addE f s n = e at *
  generalize addF f s n = g at *
  cases hw with
  | arg | room | range | over => exact hz
  | ok k hk _ _ _ _ _ => rw [upd_other _ _ _ _ (by omega)]; exact hz
/-- What the loop carries. -/
def RoI (w : World) (wr : World) (f : Nat → Cl) : Prop := BK BT wr w.heap.size f ∧ Good f ∧ Below w.heap.size w wr ∧ f 63 = zc
end Go.Proofs.Ytilbohjkkdkdiaa
