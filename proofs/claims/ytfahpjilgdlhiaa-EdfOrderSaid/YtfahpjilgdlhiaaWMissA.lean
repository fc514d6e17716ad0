/- How many periods of an item have too little of a plan: the program's count; no condition but those that each row names. -/
import Derived.Test.YtfahpjilgdlhiaaWDem
namespace Go.Proofs.Ytfahpjilgdlhiaa
open Go.RowKit Edf

namespace Edf
theorem cnt_shift (g : Nat → Int) (i : Int) (s : Nat) : ∀ m, cnt (fun j => g (s + j)) i 0 m = cnt g i s m
  | 0 => rfl
  | m + 1 => by simp only [cnt, Nat.zero_add]; rw [cnt_shift g i s m]
theorem cnt_le (g : Nat → Int) (i : Int) (s : Nat) : ∀ m, cnt g i s m ≤ m
  | 0 => Nat.le_refl _
  | m + 1 => by have := cnt_le g i s m; simp only [cnt]; split <;> omega
/-- How many of the first k periods have too little; how many periods lie in the first N ticks. -/
def msN (x : It) (i : Int) (g : Nat → Int) : Nat → Nat
  | 0 => 0
  | k + 1 => msN x i g k + if cnt g i (x.s + k * x.p) x.p < x.q then 1 else 0
def per (x : It) (N : Nat) : Nat := (N - x.s) / x.p
theorem per_iff (x : It) (hp : 1 ≤ x.p) {N k : Nat} : k < per x N ↔ x.s + k * x.p + x.p ≤ N := by
  unfold per
  rw [Nat.lt_div_iff_mul_lt (by omega)]
  have e := Nat.mul_comm x.p k
  omega
theorem msN_le (x : It) (i : Int) (g : Nat → Int) : ∀ k, msN x i g k ≤ k
  | 0 => Nat.le_refl _
  | k + 1 => by have := msN_le x i g k; simp only [msN]; split <;> omega
theorem per_le (x : It) (N : Nat) : per x N ≤ N := Nat.le_trans (Nat.div_le_self _ _) (Nat.sub_le _ _)
end Edf

set_option maxHeartbeats 1000000 in
theorem ticks_any (w : World) (v : Value) (m : Nat) (g : Nat → Int) (h : Nums w v m g) (i : Int) : Calls Try.prog 52 #[.int .i64 i, v] w fun e w' => e = .returned (.int .i64 (cnt g i 0 m : Nat)) ∧ w = w' := by
  have HV := Lib.hid h
  obtain ⟨p, cap, rfl, hm, hdrop⟩ := h
  clear hdrop
  go_enter Try.func52, Try.ntmps52
  go_wp2_with fail
  go_loop [5, 10] (fun sv iv => ∃ (k : Nat), k ≤ m ∧ iv = .int .i64 k ∧ sv = .int .i64 (cnt g i 0 k : Nat)) (fun _ iv => m - (intOf iv).toNat)
  case atStart => exact ⟨0, Nat.zero_le _, rfl, rfl⟩
  case round =>
    obtain ⟨k, hk, rfl, rfl⟩ := hrel
    by_cases hlt : k < m
    · have hlt' : (k : Int) < (m : Int) := by omega
      have k0 : (0 : Int) ≤ (k : Int) := by omega
      obtain ⟨_, _, hsl, _, hcs⟩ := HV.out
      injection hsl with hs1 hs2 hs3
      subst hs1 hs3
      obtain ⟨b, off, rfl, c0⟩ := hcs k hlt
      clear hcs hs2
      have hle := cnt_le g i 0 k
      by_cases he : g k = i
      · have HS := Lib.hid (show cnt g i 0 (k + 1) = cnt g i 0 k + 1 by simp only [cnt]; rw [Nat.zero_add, if_pos he])
        rw [he] at c0
        generalize cnt g i 0 k = c at *
        clear he
        go_wp2_with fail
        go_round
        case rel => exact ⟨k + 1, by omega, by go_num, by rw [HS.out]; go_num⟩
        case measure => simp [intOf]; omega
      · have HS := Lib.hid (show cnt g i 0 (k + 1) = cnt g i 0 k by simp only [cnt]; rw [Nat.zero_add, if_neg he]; rfl)
        have he' : (g k == i) = false := by rw [beq_eq_false_iff_ne]; exact he
        generalize cnt g i 0 k = c at *
        generalize g k = z at *
        clear he
        go_wp2_with fail
        go_round
        case rel => exact ⟨k + 1, by omega, by go_num, by rw [HS.out]⟩
        case measure => simp [intOf]; omega
    · have hge : decide (k < m) = false := decide_eq_false hlt
      obtain rfl : k = m := by omega
      clear hlt
      go_wp2_with fail
      go_ret
      exact ⟨rfl, rfl⟩

set_option maxHeartbeats 2000000 in
set_option maxRecDepth 100000 in
theorem missedOf_any (x : It) (hB : ItB x) (i : Int) (w : World) (p0 : Option Addr) (N cap0 : Nat) (g : Nat → Int) (h : Nums w (.slice p0 N cap0) N g) (hcap : N ≤ cap0) (hN : N ≤ 4096) : Calls Try.prog 41 #[itV x, .int .i64 i, .slice p0 N cap0] w (IntPost w (msN x i g (per x N) : Nat)) := by
  have HV := Lib.hid (fun w1 (hb : Below w.heap.size w w1) => h.below hb)
  obtain ⟨p, cap, hv0, hm, _⟩ := h
  injection hv0 with e1 _ e3
  subst e1 e3
  have hq1 := hB.q1
  have hqp := hB.qp
  have hp2 := hB.p2
  have hs2 := hB.s2
  have hp1 : 1 ≤ x.p := by omega
  have HPI := Lib.hid (fun k => per_iff x hp1 (N := N) (k := k))
  have HPL := Lib.hid (per_le x N)
  obtain ⟨ms, hms⟩ : ∃ ms : Nat → Nat, ∀ k, msN x i g k = ms k := ⟨_, fun _ => rfl⟩
  have HMS := Lib.hid (show ∀ k, ms (k + 1) = ms k + (if cnt g i (x.s + k * x.p) x.p < x.q then 1 else 0) from fun k => by rw [← hms, ← hms]; rfl)
  have HM0 := Lib.hid (show ms 0 = 0 by rw [← hms]; rfl)
  have HE := Lib.hid (hms (per x N))
  have HML2 := Lib.hid (show ∀ k, ms k ≤ k from fun k => by rw [← hms]; exact msN_le x i g k)
  clear hms
  generalize per x N = P at *
  clear hB
  obtain ⟨q, pp, s⟩ := x
  simp only at *
  generalize msN ⟨q, pp, s⟩ i g P = R at *
  go_enter Try.func41, Try.ntmps41
  go_wp2_with fail
  have HNW := Lib.hid (new3 w q pp s 65 _ rfl)
  generalize hW0 : w.alloc (.cells #[.int .i64 (q : Nat), .int .i64 (pp : Nat), .int .i64 (s : Nat)] 65) = W0 at *
  obtain ⟨hb0, hs0, o0, o1, o2⟩ := HNW.out
  clear hW0 HNW
  have HB0 := Lib.hid hb0
  have HX := Lib.hid (show ∀ W, Below W0.heap.size W0 W → (W.cell? ⟨w.heap.size, 0, none⟩ = some (.int .i64 (q : Nat)) ∧ W.cell? ⟨w.heap.size, 1, none⟩ = some (.int .i64 (pp : Nat)) ∧ W.cell? ⟨w.heap.size, 2, none⟩ = some (.int .i64 (s : Nat))) from fun W hb =>
    ⟨(hb.cell (p := ⟨w.heap.size, 0, none⟩) hs0).trans o0, (hb.cell (p := ⟨w.heap.size, 1, none⟩) hs0).trans o1, (hb.cell (p := ⟨w.heap.size, 2, none⟩) hs0).trans o2⟩)
  clear hb0 o0 o1 o2
  go_loopw [7, 8] (fun sv iv wr => ∃ (k : Nat), k ≤ P ∧ iv = .int .i64 ((s + k * pp : Nat) : Int) ∧ sv = .int .i64 (ms k : Nat) ∧ Hid (Below W0.heap.size W0 wr)) (fun _ iv _ => N + 1 - (intOf iv).toNat)
  case atStart => exact ⟨0, Nat.zero_le _, by rw [Nat.zero_mul]; rfl, by rw [HM0.out]; rfl, Lib.hid (Below.refl _ _)⟩
  case round =>
    obtain ⟨k, hk, rfl, rfl, HB⟩ := hrel
    have hPN := HPL.out
    obtain ⟨o0, o1, o2⟩ := HX.out wr HB.out
    have hk2 : s + k * pp ≤ N + s := by
      by_cases e : k = 0
      · subst e; simp
      · have h := (HPI.out (k - 1)).1 (by omega)
        have h2 : k * pp = (k - 1) * pp + pp := by rw [← Nat.succ_mul]; congr 1; omega
        omega
    by_cases hlt : k < P
    · have hfit := (HPI.out k).1 hlt
      have HST := Lib.hid (show s + (k + 1) * pp = s + k * pp + pp by rw [Nat.add_mul]; omega)
      have HMS1 := Lib.hid (HMS.out k)
      have hmk := HML2.out k
      generalize s + k * pp = st at *
      generalize ms k = c at *
      have hlt' : (st : Int) + (pp : Int) ≤ (N : Int) := by omega
      obtain ⟨_, _, hsl, _, hcs⟩ := HV.out wr (bnext HB0.out HB.out)
      injection hsl with hs1 hs2' hs3
      subst hs1 hs3
      obtain ⟨b, off, rfl, _⟩ := hcs st (by omega)
      have HT := Lib.hid (show ∀ nd, Calls Try.prog 52 #[.int .i64 i, .slice (some ⟨b, off + st, none⟩) pp (cap0 - st)] (wr.drewN nd) fun e w' => e = .returned (.int .i64 (cnt g i st pp : Nat)) ∧ w' = wr.drewN nd from fun nd => by
        have := ticks_any (wr.drewN nd) (.slice (some ⟨b, off + st, none⟩) pp (cap0 - st)) pp (fun j => g (st + j)) ⟨_, _, rfl, by omega, fun j hj => by
          obtain ⟨b2, off2, e2, c2⟩ := hcs (st + j) (by omega)
          cases e2
          exact ⟨b, off + st, rfl, by rw [Nat.add_assoc]; exact c2⟩⟩ i
        rw [cnt_shift] at this
        exact this.mono fun _ _ h => ⟨h.1, h.2.symm⟩)
      have hcl := cnt_le g i st pp
      have e1 : IntKind.i64.wrap ((st : Int) + (pp : Int)) = (st : Int) + (pp : Int) := IntWalk.i64_in _ (by omega)
      have e2 : (0 : Int) ≤ (st : Int) := by omega
      have e3 : (st : Int) ≤ (st : Int) + (pp : Int) := by omega
      have e4 : (st : Int) + (pp : Int) ≤ (cap0 : Int) := by omega
      have e5 : ¬ cap0 = st := by omega
      have e6 : ((st : Int) + (pp : Int)).toNat - st = pp := by omega
      clear hcs hs2'
      by_cases hc : cnt g i st pp < q
      · have HMS2 := Lib.hid (show ms (k + 1) = c + 1 by rw [HMS1.out, if_pos hc])
        generalize cnt g i st pp = cc at *
        have hc' : decide (cc < q) = true := decide_eq_true hc
        go_upto_region 5 with fail
        go_quiet ((go_at_call 52; exact Calls.quiet_of_same (HT.out _)))
        have HB2 := Lib.hid (below_drewN HB.out nq)
        go_wp2_with fail
        go_roundw
        case rel => exact ⟨k + 1, by omega, by rw [HST.out]; go_num, by rw [HMS2.out]; go_num, HB2⟩
        case measure => simp [intOf]; omega
      · have HMS2 := Lib.hid (show ms (k + 1) = c by rw [HMS1.out, if_neg hc]; rfl)
        generalize cnt g i st pp = cc at *
        have hc' : decide (cc < q) = false := decide_eq_false hc
        go_upto_region 5 with fail
        go_quiet ((go_at_call 52; exact Calls.quiet_of_same (HT.out _)))
        have HB2 := Lib.hid (below_drewN HB.out nq)
        clear hc
        go_wp2_with fail
        go_roundw
        case rel => exact ⟨k + 1, by omega, by rw [HST.out]; go_num, by rw [HMS2.out], HB2⟩
        case measure => simp [intOf]; omega
    · have hfit : ¬ s + k * pp + pp ≤ N := fun h => hlt ((HPI.out k).2 h)
      obtain rfl : k = P := by omega
      have HB2 := Lib.hid (bnext HB0.out HB.out)
      generalize s + k * pp = st at *
      generalize ms k = c at *
      have hlt' : (N : Int) < (st : Int) + (pp : Int) := by omega
      clear hlt hfit
      go_wp2_with fail
      go_ret
      exact ⟨by rw [HE.out]; rfl, HB2.out⟩
end Go.Proofs.Ytfahpjilgdlhiaa
