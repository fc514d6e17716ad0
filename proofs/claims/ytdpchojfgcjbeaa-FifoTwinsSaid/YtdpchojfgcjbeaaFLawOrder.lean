/- The law FifoOrder: whatever is pushed and popped: what leaves are the first ones of what came, in order; true at every limit and every row of flags; no condition but that the row can be read. -/
import Derived.Test.YtdpchojfgcjbeaaFWorks
import Derived.Test.YtdpchojfgcjbeaaFDrop
import Derived.Test.YtdpchojfgcjbeaaFList
import Derived.Deep.LoopGhost
namespace Go.Proofs.Ytdpchojfgcjbeaa
open Go.RowKit

/-- So many numbers from one on. -/
def seg (m c : Nat) : List Int := (List.range' m c).map fun (z : Nat) => (z : Int)
theorem seg_len (m c : Nat) : (seg m c).length = c := by simp [seg]
theorem seg_cons (m c : Nat) : seg m (c + 1) = (m : Int) :: seg (m + 1) c := by simp [seg, List.range'_succ]
theorem seg_snoc (m c : Nat) : seg m (c + 1) = seg m c ++ [((m + c : Nat) : Int)] := by
  simp [seg, List.range'_concat]
theorem seg_at {m c j : Nat} (h : j < c) : (seg m c)[j]? = some ((m + j : Nat) : Int) := by
  simp [seg, h]

theorem tmod9 (x : Int) : -9 < x.tmod 9 ∧ x.tmod 9 < 9 := by
  refine ⟨?_, Int.tmod_lt_of_pos x (by omega)⟩
  rcases Int.le_total 0 x with h | h
  · rw [Int.tmod_eq_emod_of_nonneg h]; omega
  · have e := Int.neg_tmod x 9
    have h2 : (-x).tmod 9 = (-x) % 9 := Int.tmod_eq_emod_of_nonneg (by omega)
    omega

/-- Between two rounds. -/
def OrdRel (w : World) (lim : Int) (len n m k : Nat) (wr : World) : Prop :=
  ∃ A s, PQ QT_I ET_I 1 w.heap.size wr A w.heap.size s ∧ A.Good 1 ∧ A.limit = lim ∧ A.l.map (·.1) = ints (seg m (n - m)) ∧ A.last ≤ k ∧ m ≤ n ∧ n ≤ k ∧ k ≤ len ∧ Below w.heap.size w wr
theorem ord_len {n m : Nat} {A : Qu} (h : A.l.map (·.1) = ints (seg m (n - m))) : A.l.length = n - m := by
  have := congrArg List.length h
  simpa [ints_len, seg_len] using this

/-- What Len and Room tell, the length under a name. -/
theorem len_c {B b : Nat} {w : World} {A : Qu} {s : Value} (h : PQ QT_I ET_I 1 B w A b s) {c : Nat} (hc : A.l.length = c) : Calls Try.prog 20 #[.pointer (some ⟨b, 0, none⟩)] w fun e w' => e = .returned (.int .i64 c) ∧ w = w' := hc ▸ len_I 1 B A w b s h
theorem room_c {B b : Nat} {w : World} {A : Qu} {s : Value} (h : PQ QT_I ET_I 1 B w A b s) (hA : A.Good 1) {c : Nat} (hc : A.l.length = c) {lim : Int} (hl : A.limit = lim) : Calls Try.prog 21 #[.pointer (some ⟨b, 0, none⟩)] w fun e w' => e = .returned (.int .i64 (lim - c)) ∧ w = w' := hc ▸ hl ▸ room_I 1 B A hA w b s h
theorem ord_head {A : Qu} {m n : Nat} (hl : A.l.map (·.1) = ints (seg m (n - m))) (h : m < n) (h0 : 0 < A.l.length) : A.l[0].1 = .int .i64 m := by
  obtain ⟨c, hc⟩ : ∃ c, n - m = c + 1 := ⟨n - m - 1, by omega⟩
  rw [hc, seg_cons] at hl
  have := congrArg (fun l => l[0]?) hl
  simpa [ints, List.getElem?_eq_getElem h0] using this
theorem ord_drop {A : Qu} {m n : Nat} (hl : A.l.map (·.1) = ints (seg m (n - m))) (h : m < n) : (A.drop 0).l.map (·.1) = ints (seg (m + 1) (n - (m + 1))) := by
  obtain ⟨c, hc⟩ : ∃ c, n - m = c + 1 := ⟨n - m - 1, by omega⟩
  rw [hc, seg_cons] at hl
  rw [show n - (m + 1) = c from by omega]
  have := congrArg List.tail hl
  simpa [Qu.drop, ints, List.map_tail] using this
theorem ord_push {A : Qu} {m n : Nat} (hl : A.l.map (·.1) = ints (seg m (n - m))) (h : m ≤ n) : (A.push (.int .i64 n)).l.map (·.1) = ints (seg m (n + 1 - m)) := by
  rw [show n + 1 - m = (n - m) + 1 from by omega, seg_snoc, show m + (n - m) = n from by omega]
  simp [Qu.push, hl, ints]

set_option maxHeartbeats 4000000 in
set_option maxRecDepth 100000 in
theorem order_any (x : Int) (pv : Value) (l : List Bool) (w : World) (hp : Lst (fun _ => False) w pv (bools l)) :
    Calls Try.prog 5 #[.int .i64 x, pv] w fun e w' => e = .returned (.bool true) ∧ Below w.heap.size w w' := by
  obtain ⟨p, cp, rfl, hm, hg⟩ := hp
  have e1 := bools_len l
  rw [e1] at hm ⊢
  have HG := Lib.hid hg
  obtain ⟨d1, d2⟩ := tmod9 x
  clear hg e1
  go_enter Try.func5, Try.ntmps5
  go_wp2_with fail
  obtain ⟨lim, hlim⟩ : ∃ lim, x.tmod 9 % 9 + 1 = lim := ⟨_, rfl⟩
  rw [hlim]
  have l1 : 1 ≤ lim := by omega
  have l9 : lim ≤ 9 := by omega
  clear hlim d1 d2
  refine (new_yes_I _ lim l1 (by omega)).mono ?_
  rintro e w1 ⟨rfl, hw1⟩
  have h0 := Lib.hid (show OrdRel w lim l.length 0 0 0 w1 from ⟨_, _, hw1 ▸ PQ.new (Nat.le_refl _) lim, good_new (by omega) (by omega), rfl, rfl, by simp, by omega, by omega, by omega, hw1 ▸ (Below.refl _ w).alloc (Nat.le_refl _) _⟩)
  clear hw1
  have e50 := errV_ne (n := 50) (by decide)
  have e40 := errV_ne (n := 40) (by decide)
  have e0 := errV_0
  go_wp2_with fail
  go_loopw [7, 8, 9] (fun a b c wr => ∃ n m k : Nat, a = .int .i64 n ∧ b = .int .i64 m ∧ c = .int .i64 k ∧ OrdRel w lim l.length n m k wr) (fun _ _ c _ => l.length - (intOf c).toNat)
  case atStart => exact ⟨0, 0, 0, rfl, rfl, rfl, h0.out⟩
  case round =>
    obtain ⟨n, m, k, rfl, rfl, rfl, hR⟩ := hrel
    obtain ⟨A, s, hq, hA, hlim, hl, hlast, hmn, hnk, hk, hb⟩ := hR
    have hal := ord_len hl
    have HQ := Lib.hid hq
    have HA := Lib.hid hA
    have HL := Lib.hid hl
    have HLIM := Lib.hid hlim
    have HB := Lib.hid hb
    have HAL := Lib.hid hal
    have hlen := hA.len
    rw [hlim, hal] at hlen
    have hbs := hb.size
    clear hq hA hl hlim hb hal
    by_cases hlt : k < l.length
    · obtain ⟨b1, o1, rfl, _, hc⟩ := HG.out k _ (bools_at hlt)
      have hc' : wr.cell? ⟨b1, o1 + k, none⟩ = some (.bool (l.getD k false)) := (HB.out.cell (p := ⟨b1, o1 + k, none⟩) (cell_lt hc)).trans hc
      clear hc
      have z0 : (0 : Int) ≤ (k : Int) := by omega
      have z1 : (k : Int) < (l.length : Int) := by omega
      generalize l.getD k false = fl at *
      cases fl with
      | true =>
        by_cases hne : m < n
        · have hd := Lib.hid (pop_of_I _ _ _ _ _ ((drop_yes_I _ A HA.out wr _ s HQ.out 0 (by have := HAL.out; omega) m (ord_head HL.out hne (by have := HAL.out; omega))).mono fun e w' h => ⟨h.1, h.2⟩))
          go_wp2_with fail
          refine hd.out.mono ?_
          rintro e w3 ⟨rfl, s3, h3, k3, _⟩
          have b3 := HB.out.trans (HQ.out.under k3)
          have H3 := Lib.hid h3
          have B3 := Lib.hid b3
          have hcl : (A.drop 0).l.length = n - (m + 1) := ord_len (ord_drop HL.out hne)
          obtain ⟨c, hc⟩ : ∃ c, (A.drop 0).l.length = c := ⟨_, rfl⟩
          have t1 : ((c : Int) != (n : Int) - ((m : Int) + 1)) = false := by simp; omega
          have t2 : ((c : Int) + (lim - c) != lim) = false := by simp; omega
          have t3 : (c : Int) ≤ lim := by omega
          have HC := Lib.hid hc
          clear h3 k3 b3 hcl hc
          go_wp2_with fail
          refine (len_c H3.out HC.out).mono ?_
          rintro e w4 ⟨rfl, rfl⟩
          go_wp2_with fail
          refine (len_c H3.out HC.out).mono ?_
          rintro e w4 ⟨rfl, rfl⟩
          go_wp2_with fail
          refine (room_c H3.out (HA.out.drop 0) HC.out HLIM.out).mono ?_
          rintro e w4 ⟨rfl, rfl⟩
          go_wp2_with fail
          go_roundw
          case rel => exact ⟨n, m + 1, k + 1, rfl, by go_num, by go_num, A.drop 0, s3, H3.out, HA.out.drop 0, HLIM.out, ord_drop HL.out hne, by simp [Qu.drop]; omega, by omega, by omega, by omega, B3.out⟩
          case measure => simp [intOf]; omega
        · have hd := Lib.hid (pop_of_I _ _ _ _ _ ((drop_no_I 1 _ A wr _ s HQ.out 0 (by have := HAL.out; exact decide_eq_false (by omega))).mono fun e w' h => ⟨h.1, h.2⟩))
          have hnm : n ≤ m := by omega
          have t0 : decide (m < n) = false := by simp; omega
          go_wp2_with fail
          refine hd.out.mono ?_
          rintro e w3 ⟨rfl, rfl⟩
          obtain ⟨c, hc⟩ : ∃ c, A.l.length = c := ⟨_, rfl⟩
          have hcl := HAL.out
          have t1 : ((c : Int) != (n : Int) - (m : Int)) = false := by simp; omega
          have t2 : ((c : Int) + (lim - c) != lim) = false := by simp; omega
          have t3 : (c : Int) ≤ lim := by omega
          have HC := Lib.hid hc
          clear hcl hc
          go_wp2_with fail
          refine (len_c HQ.out HC.out).mono ?_
          rintro e w4 ⟨rfl, rfl⟩
          go_wp2_with fail
          refine (len_c HQ.out HC.out).mono ?_
          rintro e w4 ⟨rfl, rfl⟩
          go_wp2_with fail
          refine (room_c HQ.out HA.out HC.out HLIM.out).mono ?_
          rintro e w4 ⟨rfl, rfl⟩
          go_wp2_with fail
          go_roundw
          case rel => exact ⟨n, m, k + 1, rfl, rfl, by go_num, A, s, HQ.out, HA.out, HLIM.out, HL.out, by omega, by omega, by omega, by omega, HB.out⟩
          case measure => simp [intOf]; omega
      | false =>
        by_cases hfull : (n : Int) - m = lim
        · have t4 : ((n : Int) - (m : Int) == lim) = true := by simp; omega
          have hp := Lib.hid (push_no_I 1 _ A HA.out wr _ s HQ.out n (by rw [HLIM.out, HAL.out]; omega))
          have HF := Lib.hid hfull
          clear hfull
          go_wp2_with fail
          refine hp.out.mono ?_
          rintro e w3 ⟨rfl, rfl⟩
          obtain ⟨c, hc⟩ : ∃ c, A.l.length = c := ⟨_, rfl⟩
          have hcl := HAL.out
          have t1 : ((c : Int) != (n : Int) - (m : Int)) = false := by simp; omega
          have t2 : ((c : Int) + (lim - c) != lim) = false := by simp; omega
          have t3 : (c : Int) ≤ lim := by omega
          have HC := Lib.hid hc
          clear hcl hc
          go_wp2_with fail
          refine (len_c HQ.out HC.out).mono ?_
          rintro e w4 ⟨rfl, rfl⟩
          go_wp2_with fail
          refine (len_c HQ.out HC.out).mono ?_
          rintro e w4 ⟨rfl, rfl⟩
          go_wp2_with fail
          refine (room_c HQ.out HA.out HC.out HLIM.out).mono ?_
          rintro e w4 ⟨rfl, rfl⟩
          go_wp2_with fail
          go_roundw
          case rel => exact ⟨n, m, k + 1, rfl, rfl, by go_num, A, s, HQ.out, HA.out, HLIM.out, HL.out, by omega, by omega, by omega, by omega, HB.out⟩
          case measure => simp [intOf]; omega
        · have t4 : ((n : Int) - (m : Int) == lim) = false := by simp; omega
          have hp := Lib.hid (push_yes_I _ A HA.out wr _ s HQ.out n (by omega) (by rw [HLIM.out, HAL.out]; omega) HB.out.size)
          go_wp2_with fail
          refine hp.out.mono ?_
          rintro e w3 ⟨rfl, s3, h3, k3, _⟩
          have b3 := HB.out.trans (HQ.out.under k3)
          have H3 := Lib.hid h3
          have B3 := Lib.hid b3
          have HA3 := Lib.hid (good_push_I HA.out n (by rw [HLIM.out, HAL.out]; omega))
          have hcl : (A.push (.int .i64 n)).l.length = n + 1 - m := ord_len (ord_push HL.out hmn)
          obtain ⟨c, hc⟩ : ∃ c, (A.push (.int .i64 n)).l.length = c := ⟨_, rfl⟩
          have t1 : ((c : Int) != (n : Int) + 1 - (m : Int)) = false := by simp; omega
          have t2 : ((c : Int) + (lim - c) != lim) = false := by simp; omega
          have t3 : (c : Int) ≤ lim := by omega
          have HC := Lib.hid hc
          clear h3 k3 b3 hcl hc
          go_wp2_with fail
          refine (len_c H3.out HC.out).mono ?_
          rintro e w4 ⟨rfl, rfl⟩
          go_wp2_with fail
          refine (len_c H3.out HC.out).mono ?_
          rintro e w4 ⟨rfl, rfl⟩
          go_wp2_with fail
          refine (room_c H3.out HA3.out HC.out HLIM.out).mono ?_
          rintro e w4 ⟨rfl, rfl⟩
          go_wp2_with fail
          go_roundw
          case rel => exact ⟨n + 1, m, k + 1, by go_num, rfl, by go_num, A.push (.int .i64 n), s3, H3.out, HA3.out, HLIM.out, ord_push HL.out hmn, by simp [Qu.push]; omega, by omega, by omega, by omega, B3.out⟩
          case measure => simp [intOf]; omega
    · obtain rfl : k = l.length := by omega
      have hh : Holds_I wr (.pointer (some ⟨w.heap.size, 0, none⟩)) (seg m (n - m)) := .inr ⟨_, _, s, A, rfl, HQ.out, HA.out, HL.out⟩
      have hL := Lib.hid (list_any wr _ _ hh)
      clear hh
      go_wp2_with fail
      refine hL.out.mono ?_
      rintro e w3 ⟨v, rfl, ho, hb3⟩
      have HB3 := Lib.hid (bnext HB.out hb3)
      have hls := Lst.of_own (S := fun _ => False) ho (by rw [ints_len]) (by rw [seg_len]; omega) (fun _ _ _ k => k)
      obtain ⟨p2, c2, rfl, _, hg2⟩ := hls
      rw [ints_len, seg_len]
      have HG2 := Lib.hid hg2
      clear ho hb3 hg2
      obtain ⟨c, hc⟩ : ∃ c, n - m = c := ⟨_, rfl⟩
      rw [hc] at HG2 ⊢
      have HC := Lib.hid hc
      have hcn : (c : Int) = (n : Int) - m := by omega
      have t5 : ((c : Int) == (n : Int) - (m : Int)) = true := by simp; omega
      have cb : c ≤ 4096 := by omega
      have hmc : m + c ≤ n := by omega
      clear hc hcn
      go_wp2_with fail
      go_loop [14] (fun i => ∃ j : Nat, j ≤ c ∧ i = .int .i64 j) (fun i => c - (intOf i).toNat)
      case atStart => exact ⟨0, Nat.zero_le _, rfl⟩
      case round =>
        obtain ⟨j, hj, rfl⟩ := hrel
        by_cases hjc : j < c
        · obtain ⟨b4, o4, rfl, _, hc4⟩ := HG2.out j (.int .i64 ((m : Int) + j)) (by simp [ints, seg_at hjc])
          have y0 : (0 : Int) ≤ (j : Int) := by omega
          have y1 : (j : Int) < (c : Int) := by omega
          have y2 : (m : Int) + j ≤ 9223372036854775807 := by omega
          go_wp2_with fail
          go_round
          case rel => exact ⟨j + 1, by omega, by go_num⟩
          case measure => simp [intOf]; omega
        · obtain rfl : j = c := by omega
          go_wp2_with fail
          refine (works_any _).mono ?_
          rintro e w4 ⟨rfl, hb4⟩
          go_wp2_with fail
          go_ret
          exact ⟨rfl, bnext HB3.out hb4⟩
end Go.Proofs.Ytdpchojfgcjbeaa
