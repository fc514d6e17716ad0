/- Plain mathematics for stage 1: a share is the least number of units that is not below the exact part; of a lesser part it is not above; Most of it is at least Q, and its share no more. No condition but that the reservations may be. -/
import Derived.Test.YtlhgopdlpjmbhaaFx
namespace Go.Proofs.Ytlhgopdlpjmbhaa
open Go.RowKit

theorem share_bd (q p : Int) (h : okR q p) :
    1 ≤ shareOf q p ∧ shareOf q p ≤ 1048576 ∧ q * 1048576 ≤ shareOf q p * p ∧ (shareOf q p - 1) * p < q * 1048576 := by
  obtain ⟨h1, h2, h3⟩ := h
  have hp : 0 < p := by omega
  have a1 : shareOf q p * p ≤ q * 1048576 + p - 1 := Int.ediv_mul_le _ (by omega)
  have a2 : q * 1048576 + p - 1 < (shareOf q p + 1) * p := Int.lt_ediv_add_one_mul_self _ hp
  rw [Int.add_mul, Int.one_mul] at a2
  have a3 : (shareOf q p - 1) * p = shareOf q p * p - p := by rw [Int.sub_mul, Int.one_mul]
  refine ⟨?_, ?_, by omega, by omega⟩
  · have : 0 < shareOf q p * p := by omega
    have := Int.pos_of_mul_pos_left this hp
    omega
  · have b : (shareOf q p - 1) * p < 1048576 * p := by omega
    have := Int.lt_of_mul_lt_mul_right b (by omega)
    omega

theorem share_mono (q p r s : Int) (h : okR q p) (g : okR r s) (hle : q * s ≤ r * p) : shareOf q p ≤ shareOf r s := by
  obtain ⟨n1, n2, n3, n4⟩ := share_bd q p h
  obtain ⟨m1, m2, m3, m4⟩ := share_bd r s g
  obtain ⟨h1, h2, h3⟩ := h
  obtain ⟨g1, g2, g3⟩ := g
  generalize shareOf q p = n at *
  generalize shareOf r s = m at *
  by_cases hlt : m < n
  · exfalso
    have c1 : m * p ≤ (n - 1) * p := Int.mul_le_mul_of_nonneg_right (by omega) (by omega)
    have c2 : m * p < q * 1048576 := by omega
    have c3 : m * p * s < q * 1048576 * s := Int.mul_lt_mul_of_pos_right c2 (by omega)
    have c4 : r * 1048576 * p ≤ m * s * p := Int.mul_le_mul_of_nonneg_right m3 (by omega)
    have c5 : q * s * 1048576 ≤ r * p * 1048576 := Int.mul_le_mul_of_nonneg_right hle (by omega)
    rw [Int.mul_right_comm m p s, Int.mul_right_comm q 1048576 s] at c3
    rw [Int.mul_right_comm r 1048576 p] at c4
    omega
  · omega

theorem most_bd (q p : Int) (h : okR q p) :
    q ≤ shareOf q p * p / 1048576 ∧ okR (shareOf q p * p / 1048576) p ∧ shareOf (shareOf q p * p / 1048576) p ≤ shareOf q p := by
  obtain ⟨n1, n2, n3, n4⟩ := share_bd q p h
  obtain ⟨h1, h2, h3⟩ := h
  generalize shareOf q p = n at *
  have z1 : q ≤ n * p / 1048576 := Int.le_ediv_of_mul_le (by omega) n3
  have z2 : n * p / 1048576 * 1048576 ≤ n * p := Int.ediv_mul_le _ (by omega)
  have z3 : n * p ≤ 1048576 * p := Int.mul_le_mul_of_nonneg_right n2 (by omega)
  generalize n * p / 1048576 = z at *
  refine ⟨z1, ⟨by omega, by omega, h3⟩, ?_⟩
  unfold shareOf
  have : (z * 1048576 + p - 1) / p < n + 1 := Int.ediv_lt_of_lt_mul (by omega) (by rw [Int.add_mul, Int.one_mul]; omega)
  omega
end Go.Proofs.Ytlhgopdlpjmbhaa
