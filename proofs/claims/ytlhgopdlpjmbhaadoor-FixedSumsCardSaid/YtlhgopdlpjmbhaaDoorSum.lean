/- The sums of package fixed and of package titheref01, at every slice of numbers that was there: what they answer; nothing is written. -/
import Derived.Test.YtlhgopdlpjmbhaaDoorFx
namespace Go.Proofs.YtlhgopdlpjmbhaaDoor
open Go.RowKit

/-- A slice's value that reads as zs. -/
def Ints (w : World) (v : Value) (zs : List Int) : Prop :=
  ∃ p cap, v = .slice p zs.length cap ∧ zs.length ≤ 9223372036854775807 ∧ ∀ j x, zs[j]? = some x → ∃ b off, p = some ⟨b, off, none⟩ ∧ w.cell? ⟨b, off + j, none⟩ = some (.int .i64 x)

def negB (l : List Int) : Bool := l.any fun x => decide (x < 0)
def sumF (s : Int) : List Int → Option Int
  | [] => some s
  | x :: r => if 9223372036854775807 - s < x then none else sumF (s + x) r
def fitF (s : Int) : List Int → Bool
  | [] => true
  | x :: r => if s < x then false else fitF (s - x) r

theorem negB_hit {l : List Int} {x : Int} {r : List Int} (h : l = x :: r) (hx : x < 0) : negB l = true := by subst h; simp [negB, hx]
theorem negB_miss {l : List Int} {x : Int} {r : List Int} (h : l = x :: r) (hx : ¬ x < 0) : negB l = negB r := by subst h; simp [negB, hx]
theorem negB_nil : negB [] = false := rfl
theorem drop_at {zs : List Int} {k : Nat} (h : k < zs.length) : ∃ x, zs[k]? = some x ∧ zs.drop k = x :: zs.drop (k + 1) :=
  ⟨zs[k], List.getElem?_eq_getElem h, List.drop_eq_getElem_cons h⟩
theorem negB_elem {zs : List Int} (h : negB zs = false) {k : Nat} {x : Int} (hx : zs[k]? = some x) : 0 ≤ x := by
  have hm : x ∈ zs := List.mem_of_getElem? hx
  have := List.any_eq_false.1 h x hm
  simp at this
  exact this

theorem ret_bool {a b : Bool} (h : a = b) : Ending.returned (.bool a) = .returned (.bool b) := by rw [h]
theorem ret_int {k : IntKind} {a b : Int} (h : a = b) : Ending.returned (.int k a) = .returned (.int k b) := by rw [h]

theorem below_ints (w : World) (v : Value) (zs : List Int) (h : Ints w v zs) :
    Calls Tryd.prog 29 #[v] w fun e w' => e = .returned (.bool (negB zs)) ∧ w = w' := by
  obtain ⟨p, cap, rfl, hm, hc⟩ := h
  have HC := Lib.hid hc
  clear hc
  go_enter Tryd.func29, Tryd.ntmps29
  go_wp2
  go_loop [7] (fun i => ∃ k : Nat, k ≤ zs.length ∧ i = .int .i64 k ∧ Hid (negB zs = negB (zs.drop k))) (fun i => zs.length - (intOf i).toNat)
  case atStart => exact ⟨0, Nat.zero_le _, rfl, Lib.hid rfl⟩
  case round =>
    obtain ⟨k, hk, rfl, HE⟩ := hrel
    by_cases hlt : k < zs.length
    · obtain ⟨x, hx, hd⟩ := drop_at hlt
      obtain ⟨b, off, rfl, hcell⟩ := HC.out k x hx
      have HD := Lib.hid hd
      clear hd hx
      by_cases hneg : x < 0
      · go_wp2
        go_ret
        exact ⟨ret_bool (by rw [HE.out, negB_hit HD.out hneg]), rfl⟩
      · go_wp2
        go_round
        case rel => exact ⟨k + 1, by omega, by go_num, Lib.hid (by rw [HE.out, negB_miss HD.out hneg])⟩
        case measure => simp [intOf]; omega
    · go_wp2
      go_ret
      exact ⟨ret_bool (by rw [HE.out, List.drop_of_length_le (by omega), negB_nil]), rfl⟩

theorem rbelow_ints (w : World) (v : Value) (zs : List Int) (h : Ints w v zs) :
    Calls Tryd.prog 30 #[v] w fun e w' => e = .returned (.bool (negB zs)) ∧ w = w' := by
  obtain ⟨p, cap, rfl, hm, hc⟩ := h
  have HC := Lib.hid hc
  clear hc
  go_enter Tryd.func30, Tryd.ntmps30
  go_wp2
  go_loop [3] (fun i => ∃ k : Nat, k ≤ zs.length ∧ i = .int .i64 k ∧ Hid (negB zs = negB (zs.drop k))) (fun i => zs.length - (intOf i).toNat)
  case atStart => exact ⟨0, Nat.zero_le _, rfl, Lib.hid rfl⟩
  case round =>
    obtain ⟨k, hk, rfl, HE⟩ := hrel
    by_cases hlt : k < zs.length
    · obtain ⟨x, hx, hd⟩ := drop_at hlt
      obtain ⟨b, off, rfl, hcell⟩ := HC.out k x hx
      have HD := Lib.hid hd
      clear hd hx
      by_cases hneg : x < 0
      · go_wp2
        go_ret
        exact ⟨ret_bool (by rw [HE.out, negB_hit HD.out hneg]), rfl⟩
      · go_wp2
        go_round
        case rel => exact ⟨k + 1, by omega, by go_num, Lib.hid (by rw [HE.out, negB_miss HD.out hneg])⟩
        case measure => simp [intOf]; omega
    · go_wp2
      go_ret
      exact ⟨ret_bool (by rw [HE.out, List.drop_of_length_le (by omega), negB_nil]), rfl⟩

theorem sumF_hit {s : Int} {l r : List Int} {x : Int} (h : l = x :: r) (hx : 9223372036854775807 - s < x) : sumF s l = none := by subst h; rw [sumF, if_pos hx]
theorem sumF_miss {s : Int} {l r : List Int} {x : Int} (h : l = x :: r) (hx : ¬ 9223372036854775807 - s < x) : sumF s l = sumF (s + x) r := by subst h; rw [sumF, if_neg hx]
theorem fitF_hit {s : Int} {l r : List Int} {x : Int} (h : l = x :: r) (hx : s < x) : fitF s l = false := by subst h; rw [fitF, if_pos hx]
theorem fitF_miss {s : Int} {l r : List Int} {x : Int} (h : l = x :: r) (hx : ¬ s < x) : fitF s l = fitF (s - x) r := by subst h; rw [fitF, if_neg hx]

/-- What Sum answers. -/
def sumV (zs : List Int) : Int := if negB zs then 0 else (sumF 0 zs).getD 0
def sumN (zs : List Int) : Int := if negB zs then 1 else if (sumF 0 zs).isNone then 10 else 0
def errV (n : Int) : Value := if n = 0 then .nilIface else .iface 57 (.int .i64 n)
theorem ret_sum {zs : List Int} {a : Int} {x : Value} (h1 : sumV zs = a) (h2 : errV (sumN zs) = x) : Ending.returned (.tuple #[.int .i64 a, x]) = .returned (.tuple #[.int .i64 (sumV zs), errV (sumN zs)]) := by rw [h1, h2]
theorem ret_rsum {zs : List Int} {a n : Int} (h1 : sumV zs = a) (h2 : sumN zs = n) : Ending.returned (.tuple #[.int .i64 a, .int .i64 n]) = .returned (.tuple #[.int .i64 (sumV zs), .int .i64 (sumN zs)]) := by rw [h1, h2]

theorem sum_neg {zs : List Int} (h : negB zs = true) : sumV zs = 0 ∧ sumN zs = 1 := by unfold sumV sumN; rw [h]; exact ⟨rfl, rfl⟩
theorem sum_over {zs : List Int} (h : negB zs = false) (g : sumF 0 zs = none) : sumV zs = 0 ∧ sumN zs = 10 := by unfold sumV sumN; rw [h, g]; exact ⟨rfl, rfl⟩
theorem sum_is {zs : List Int} {s : Int} (h : negB zs = false) (g : sumF 0 zs = some s) : sumV zs = s ∧ sumN zs = 0 := by unfold sumV sumN; rw [h, g]; exact ⟨rfl, rfl⟩
theorem errV_0 : errV 0 = .nilIface := rfl
theorem errV_pos {n : Int} (h : n ≠ 0) : errV n = .iface 57 (.int .i64 n) := if_neg h

set_option maxRecDepth 100000 in
theorem sum_ints (w : World) (v : Value) (zs : List Int) (h : Ints w v zs) :
    Calls Tryd.prog 15 #[v] w fun e w' => e = .returned (.tuple #[.int .i64 (sumV zs), errV (sumN zs)]) ∧ w = w' := by
  have HB := Lib.hid (below_ints w v zs h)
  cases hn : negB zs with
  | true =>
    rw [hn] at HB
    obtain ⟨e1, e2⟩ := sum_neg hn
    rw [e1, e2, errV_pos (by decide)]
    clear hn e1 e2 h
    go_enter Tryd.func15, Tryd.ntmps15
    go_wp2_with (go_at_call 29; refine HB.out.mono ?_; rintro e w' ⟨rfl, rfl⟩)
    go_ret2
    exact ⟨rfl, rfl⟩
  | false =>
    rw [hn] at HB
    obtain ⟨p, cap, rfl, hm, hc⟩ := h
    have HC := Lib.hid hc
    have HN := Lib.hid hn
    clear hc hn
    go_enter Tryd.func15, Tryd.ntmps15
    go_wp2_with (go_at_call 29; refine HB.out.mono ?_; rintro e w' ⟨rfl, rfl⟩)
    go_loop [4, 12] (fun t i => ∃ (k : Nat) (s : Int), k ≤ zs.length ∧ i = .int .i64 k ∧ t = .int .i64 s ∧ 0 ≤ s ∧ s ≤ 9223372036854775807 ∧ Hid (sumF 0 zs = sumF s (zs.drop k))) (fun _ i => zs.length - (intOf i).toNat)
    case atStart => exact ⟨0, 0, Nat.zero_le _, rfl, rfl, by omega, by omega, Lib.hid rfl⟩
    case round =>
      obtain ⟨k, s, hk, rfl, rfl, hs0, hs1, HE⟩ := hrel
      by_cases hlt : k < zs.length
      · obtain ⟨x, hx, hd⟩ := drop_at hlt
        obtain ⟨b, off, rfl, hcell⟩ := HC.out k x hx
        have hx0 := negB_elem HN.out hx
        have HD := Lib.hid hd
        clear hd hx
        by_cases hov : 9223372036854775807 - s < x
        · go_wp2
          go_ret2
          obtain ⟨e1, e2⟩ := sum_over HN.out (by rw [HE.out, sumF_hit HD.out hov])
          exact ⟨ret_sum e1 (by rw [e2]; rfl), rfl⟩
        · go_wp2
          go_round
          case rel => exact ⟨k + 1, s + x, by omega, by go_num, rfl, by omega, by omega, Lib.hid (by rw [HE.out, sumF_miss HD.out hov])⟩
          case measure => simp [intOf]; omega
      · go_wp2
        go_ret2
        obtain ⟨e1, e2⟩ := sum_is (s := s) HN.out (by rw [HE.out, List.drop_of_length_le (by omega)]; rfl)
        exact ⟨ret_sum e1 (by rw [e2]; rfl), rfl⟩
set_option maxRecDepth 100000 in
theorem rsum_ints (w : World) (v : Value) (zs : List Int) (h : Ints w v zs) :
    Calls Tryd.prog 16 #[v] w fun e w' => e = .returned (.tuple #[.int .i64 (sumV zs), .int .i64 (sumN zs)]) ∧ w = w' := by
  have HB := Lib.hid (rbelow_ints w v zs h)
  cases hn : negB zs with
  | true =>
    rw [hn] at HB
    obtain ⟨e1, e2⟩ := sum_neg hn
    rw [e1, e2]
    clear hn e1 e2 h
    go_enter Tryd.func16, Tryd.ntmps16
    go_wp2_with (go_at_call 30; refine HB.out.mono ?_; rintro e w' ⟨rfl, rfl⟩)
    go_ret2
    exact ⟨rfl, rfl⟩
  | false =>
    rw [hn] at HB
    obtain ⟨p, cap, rfl, hm, hc⟩ := h
    have HC := Lib.hid hc
    have HN := Lib.hid hn
    clear hc hn
    go_enter Tryd.func16, Tryd.ntmps16
    go_wp2_with (go_at_call 30; refine HB.out.mono ?_; rintro e w' ⟨rfl, rfl⟩)
    go_loop [4, 5] (fun t i => ∃ (k : Nat) (s : Int), k ≤ zs.length ∧ i = .int .i64 k ∧ t = .int .i64 s ∧ 0 ≤ s ∧ s ≤ 9223372036854775807 ∧ Hid (sumF 0 zs = sumF s (zs.drop k))) (fun _ i => zs.length - (intOf i).toNat)
    case atStart => exact ⟨0, 0, Nat.zero_le _, rfl, rfl, by omega, by omega, Lib.hid rfl⟩
    case round =>
      obtain ⟨k, s, hk, rfl, rfl, hs0, hs1, HE⟩ := hrel
      by_cases hlt : k < zs.length
      · obtain ⟨x, hx, hd⟩ := drop_at hlt
        obtain ⟨b, off, rfl, hcell⟩ := HC.out k x hx
        have hx0 := negB_elem HN.out hx
        have HD := Lib.hid hd
        clear hd hx
        by_cases hov : 9223372036854775807 - s < x
        · go_wp2
          go_ret2
          obtain ⟨e1, e2⟩ := sum_over HN.out (by rw [HE.out, sumF_hit HD.out hov])
          exact ⟨ret_rsum e1 e2, rfl⟩
        · go_wp2
          go_round
          case rel => exact ⟨k + 1, s + x, by omega, by go_num, rfl, by omega, by omega, Lib.hid (by rw [HE.out, sumF_miss HD.out hov])⟩
          case measure => simp [intOf]; omega
      · go_wp2
        go_ret2
        obtain ⟨e1, e2⟩ := sum_is (s := s) HN.out (by rw [HE.out, List.drop_of_length_le (by omega)]; rfl)
        exact ⟨ret_rsum e1 e2, rfl⟩

/-- What Fits answers. -/
def fitsV (zs : List Int) (m : Int) : Bool := if m < 0 ∨ negB zs = true then false else if 1048576 < m then false else fitF (1048576 - m) zs
def fitsN (zs : List Int) (m : Int) : Int := if m < 0 ∨ negB zs = true then 1 else 0
theorem fits_arg {zs : List Int} {m : Int} (h : m < 0 ∨ negB zs = true) : fitsV zs m = false ∧ fitsN zs m = 1 := by unfold fitsV fitsN; exact ⟨if_pos h, if_pos h⟩
theorem fits_big {zs : List Int} {m : Int} (h0 : ¬ m < 0) (h : negB zs = false) (g : 1048576 < m) : fitsV zs m = false ∧ fitsN zs m = 0 := by
  unfold fitsV fitsN; rw [h]; simp [h0, g]
theorem fits_is {zs : List Int} {m : Int} {b : Bool} (h0 : ¬ m < 0) (h : negB zs = false) (g : ¬ 1048576 < m) (hb : fitF (1048576 - m) zs = b) : fitsV zs m = b ∧ fitsN zs m = 0 := by
  unfold fitsV fitsN; rw [h]; simp [h0, g, hb]
theorem ret_fits {zs : List Int} {m : Int} {a : Bool} {x : Value} (h1 : fitsV zs m = a) (h2 : errV (fitsN zs m) = x) : Ending.returned (.tuple #[.bool a, x]) = .returned (.tuple #[.bool (fitsV zs m), errV (fitsN zs m)]) := by rw [h1, h2]
theorem ret_rfits {zs : List Int} {m : Int} {a : Bool} {n : Int} (h1 : fitsV zs m = a) (h2 : fitsN zs m = n) : Ending.returned (.tuple #[.bool a, .int .i64 n]) = .returned (.tuple #[.bool (fitsV zs m), .int .i64 (fitsN zs m)]) := by rw [h1, h2]

set_option maxRecDepth 100000 in
theorem fits_ints (w : World) (v : Value) (zs : List Int) (m : Int) (h : Ints w v zs) :
    Calls Tryd.prog 17 #[v, .int .i64 m] w fun e w' => e = .returned (.tuple #[.bool (fitsV zs m), errV (fitsN zs m)]) ∧ w = w' := by
  have HB := Lib.hid (below_ints w v zs h)
  by_cases hm0 : m < 0
  · obtain ⟨e1, e2⟩ := fits_arg (zs := zs) (.inl hm0)
    rw [e1, e2, errV_pos (by decide)]
    clear e1 e2 h
    go_enter Tryd.func17, Tryd.ntmps17
    go_wp2_with (go_at_call 29; refine HB.out.mono ?_; rintro e w' ⟨rfl, rfl⟩)
    go_ret2
    exact ⟨rfl, rfl⟩
  cases hn : negB zs with
  | true =>
    rw [hn] at HB
    obtain ⟨e1, e2⟩ := fits_arg (m := m) (.inr hn)
    rw [e1, e2, errV_pos (by decide)]
    clear hn e1 e2 h
    go_enter Tryd.func17, Tryd.ntmps17
    go_wp2_with (go_at_call 29; refine HB.out.mono ?_; rintro e w' ⟨rfl, rfl⟩)
    go_ret2
    exact ⟨rfl, rfl⟩
  | false =>
    rw [hn] at HB
    by_cases hbig : 1048576 < m
    · obtain ⟨e1, e2⟩ := fits_big hm0 hn hbig
      rw [e1, e2, errV_0]
      clear hn e1 e2 h
      go_enter Tryd.func17, Tryd.ntmps17
      go_wp2_with (go_at_call 29; refine HB.out.mono ?_; rintro e w' ⟨rfl, rfl⟩)
      go_ret2
      exact ⟨rfl, rfl⟩
    obtain ⟨p, cap, rfl, hm, hc⟩ := h
    have HC := Lib.hid hc
    have HN := Lib.hid hn
    clear hc hn
    go_enter Tryd.func17, Tryd.ntmps17
    go_wp2_with (go_at_call 29; refine HB.out.mono ?_; rintro e w' ⟨rfl, rfl⟩)
    go_loop [6, 22] (fun t i => ∃ (k : Nat) (s : Int), k ≤ zs.length ∧ i = .int .i64 k ∧ t = .int .i64 s ∧ 0 ≤ s ∧ s ≤ 1048576 ∧ Hid (fitF (1048576 - m) zs = fitF s (zs.drop k))) (fun _ i => zs.length - (intOf i).toNat)
    case atStart => exact ⟨0, 1048576 - m, Nat.zero_le _, rfl, rfl, by omega, by omega, Lib.hid rfl⟩
    case round =>
      obtain ⟨k, s, hk, rfl, rfl, hs0, hs1, HE⟩ := hrel
      by_cases hlt : k < zs.length
      · obtain ⟨x, hx, hd⟩ := drop_at hlt
        obtain ⟨b, off, rfl, hcell⟩ := HC.out k x hx
        have hx0 := negB_elem HN.out hx
        have HD := Lib.hid hd
        clear hd hx
        by_cases hov : s < x
        · go_wp2
          go_ret2
          obtain ⟨e1, e2⟩ := fits_is (m := m) (by omega) HN.out (by omega) (HE.out.trans (fitF_hit HD.out hov))
          exact ⟨ret_fits e1 (by rw [e2]; rfl), rfl⟩
        · go_wp2
          go_round
          case rel => exact ⟨k + 1, s - x, by omega, by go_num, rfl, by omega, by omega, Lib.hid (by rw [HE.out, fitF_miss HD.out hov])⟩
          case measure => simp [intOf]; omega
      · go_wp2
        go_ret2
        obtain ⟨e1, e2⟩ := fits_is (m := m) (b := true) (by omega) HN.out (by omega) (by rw [HE.out, List.drop_of_length_le (by omega)]; rfl)
        exact ⟨ret_fits e1 (by rw [e2]; rfl), rfl⟩

set_option maxRecDepth 100000 in
theorem rfits_ints (w : World) (v : Value) (zs : List Int) (m : Int) (h : Ints w v zs) :
    Calls Tryd.prog 18 #[v, .int .i64 m] w fun e w' => e = .returned (.tuple #[.bool (fitsV zs m), .int .i64 (fitsN zs m)]) ∧ w = w' := by
  have HB := Lib.hid (rbelow_ints w v zs h)
  by_cases hm0 : m < 0
  · obtain ⟨e1, e2⟩ := fits_arg (zs := zs) (.inl hm0)
    rw [e1, e2]
    clear e1 e2 h
    cases hn : negB zs <;> rw [hn] at HB <;> clear hn
    all_goals
      go_enter Tryd.func18, Tryd.ntmps18
      go_wp2_with (go_at_call 30; refine HB.out.mono ?_; rintro e w' ⟨rfl, rfl⟩)
      go_ret2
      exact ⟨rfl, rfl⟩
  cases hn : negB zs with
  | true =>
    rw [hn] at HB
    obtain ⟨e1, e2⟩ := fits_arg (m := m) (.inr hn)
    rw [e1, e2]
    clear hn e1 e2 h
    go_enter Tryd.func18, Tryd.ntmps18
    go_wp2_with (go_at_call 30; refine HB.out.mono ?_; rintro e w' ⟨rfl, rfl⟩)
    go_ret2
    exact ⟨rfl, rfl⟩
  | false =>
    rw [hn] at HB
    by_cases hbig : 1048576 < m
    · obtain ⟨e1, e2⟩ := fits_big hm0 hn hbig
      rw [e1, e2]
      clear hn e1 e2 h
      go_enter Tryd.func18, Tryd.ntmps18
      go_wp2_with (go_at_call 30; refine HB.out.mono ?_; rintro e w' ⟨rfl, rfl⟩)
      go_ret2
      exact ⟨rfl, rfl⟩
    obtain ⟨p, cap, rfl, hm, hc⟩ := h
    have HC := Lib.hid hc
    have HN := Lib.hid hn
    clear hc hn
    go_enter Tryd.func18, Tryd.ntmps18
    go_wp2_with (go_at_call 30; refine HB.out.mono ?_; rintro e w' ⟨rfl, rfl⟩)
    go_loop [6, 7] (fun t i => ∃ (k : Nat) (s : Int), k ≤ zs.length ∧ i = .int .i64 k ∧ t = .int .i64 s ∧ 0 ≤ s ∧ s ≤ 1048576 ∧ Hid (fitF (1048576 - m) zs = fitF s (zs.drop k))) (fun _ i => zs.length - (intOf i).toNat)
    case atStart => exact ⟨0, 1048576 - m, Nat.zero_le _, rfl, rfl, by omega, by omega, Lib.hid rfl⟩
    case round =>
      obtain ⟨k, s, hk, rfl, rfl, hs0, hs1, HE⟩ := hrel
      by_cases hlt : k < zs.length
      · obtain ⟨x, hx, hd⟩ := drop_at hlt
        obtain ⟨b, off, rfl, hcell⟩ := HC.out k x hx
        have hx0 := negB_elem HN.out hx
        have HD := Lib.hid hd
        clear hd hx
        by_cases hov : s < x
        · go_wp2
          go_ret2
          obtain ⟨e1, e2⟩ := fits_is (m := m) (by omega) HN.out (by omega) (HE.out.trans (fitF_hit HD.out hov))
          exact ⟨ret_rfits e1 e2, rfl⟩
        · go_wp2
          go_round
          case rel => exact ⟨k + 1, s - x, by omega, by go_num, rfl, by omega, by omega, Lib.hid (by rw [HE.out, fitF_miss HD.out hov])⟩
          case measure => simp [intOf]; omega
      · go_wp2
        go_ret2
        obtain ⟨e1, e2⟩ := fits_is (m := m) (b := true) (by omega) HN.out (by omega) (by rw [HE.out, List.drop_of_length_le (by omega)]; rfl)
        exact ⟨ret_rfits e1 e2, rfl⟩
end Go.Proofs.YtlhgopdlpjmbhaaDoor
