/- The program's cmp.Compare and order of two entries of a heap of strings, and that they order; the world but for new blocks stays; no condition but those that each row names. -/
import Derived.Test.YtodcnlmodoahjaaEHeap
import Derived.Test.YtodcnlmodoahjaaEOrd
import Derived.Laws.Cover1
import Derived.Sort.Walk0
import Derived.RegionTactic
import Derived.IntWalk
import Derived.BigQuiet
namespace Go.Proofs.Ytodcnlmodoahjaa
open Go.RowKit Hp

abbrev HT_S : TypeId := 59
abbrev NT_S : TypeId := 61
/-- How a key stands. -/
abbrev enc_S (x : ByteArray) : Value := (.string x)
def kc_S (x y : ByteArray) : Int := if Op.bytesLess x.toList y.toList = true then -1 else if (x.toList == y.toList) = true then 0 else 1
theorem ba_ext {x y : ByteArray} (h : x.toList = y.toList) : x = y := by
  have h1 : x.data.toList = y.data.toList := by rwa [ByteArray.toList_eq, ByteArray.toList_eq] at h
  cases x; cases y; simp only [ByteArray.mk.injEq]
  exact Array.toList_inj.1 h1
theorem cmp_S : Cmp kc_S where
  eq {x y} h := by
    unfold kc_S at h
    split at h
    · omega
    · split at h
      · rename_i h2; exact ba_ext (by simpa using h2)
      · omega
  refl x := by
    have : ¬ Op.bytesLess x.toList x.toList = true := by rw [bytesLess_eq]; simp
    unfold kc_S; rw [if_neg this]; simp
  flip {x y} := by
    unfold kc_S
    rw [bytesLess_eq, bytesLess_eq]
    by_cases h1 : x.toList < y.toList
    · have h2 : ¬ y.toList < x.toList := List.lt_asymm h1
      have h3 : ¬ y.toList = x.toList := fun e => by rw [e] at h1; exact List.lt_irrefl _ h1
      simp [h1, h2, h3]
    · by_cases h2 : y.toList < x.toList
      · have h3 : ¬ x.toList = y.toList := fun e => by rw [e] at h2; exact List.lt_irrefl _ h2
        simp [h1, h2, h3]
      · have h3 : x.toList = y.toList := List.le_antisymm (List.not_lt.1 h2) (List.not_lt.1 h1)
        simp [h3, List.lt_irrefl]
  trans {x y z} h1 h2 := by
    have hl : ∀ a b : ByteArray, kc_S a b < 0 ↔ a.toList < b.toList := fun a b => by
      unfold kc_S
      rw [bytesLess_eq]
      by_cases h : a.toList < b.toList
      · simp [h]
      · simp only [h, decide_false, Bool.false_eq_true, if_false, iff_false]; split <;> omega
    rw [hl] at *
    exact List.lt_trans h1 h2
theorem ord_S : Hp.Ord (ahB kc_S) := cmp_S.ord

set_option maxHeartbeats 400000 in
theorem isnan_S (x : ByteArray) (w : World) :
    Calls Try.prog 60 #[(.string x)] w fun e w' => e = .returned (.bool false) ∧ w = w' := by
  go_enter Try.func60, Try.ntmps60
  go_wp2
  go_ret
  exact ⟨by simp, rfl⟩
set_option maxHeartbeats 400000 in
theorem compare_S (x y : ByteArray) (w : World) :
    Calls Try.prog 58 #[(.string x), (.string y)] w fun e w' => e = .returned (.int .i64 (kc_S x y)) ∧ w = w' := by
  have N := fun (x : ByteArray) (w : World) => Lib.hid (isnan_S x w)
  go_enter Try.func58, Try.ntmps58
  go_wp2_with fail
  refine (N _ _).out.mono ?_
  rintro e w1 ⟨rfl, rfl⟩
  go_wp2_with fail
  refine (N _ _).out.mono ?_
  rintro e w1 ⟨rfl, rfl⟩
  go_wp2_with fail
  all_goals (go_ret; refine ⟨ret_int ?_, rfl⟩; simp_all [kc_S])
set_option maxHeartbeats 400000 in
/-- order: two blocks are laid. -/
theorem order_S (x y : Int × ByteArray) (w : World) :
    Calls Try.prog 50 #[.agg #[.int .i64 x.1, (.string x.2)], .agg #[.int .i64 y.1, (.string y.2)]] w fun e w' => e = .returned (.int .i64 (cf kc_S x y)) ∧
      w' = (w.alloc (.cells #[.int .i64 x.1, (.string x.2)] NT_S)).alloc (.cells #[.int .i64 y.1, (.string y.2)] NT_S) := by
  obtain ⟨i, k⟩ := x
  obtain ⟨j, l⟩ := y
  simp only
  have HC := fun (w : World) => Lib.hid (compare_S k l w)
  have HI := fun (w : World) => Lib.hid (compare_I i j w)
  have HE := Lib.hid (show cf kc_S (i, k) (j, l) = if kc_S k l = 0 then kc_I i j else kc_S k l from rfl)
  generalize kc_S k l = c at HC HE
  by_cases h0 : c = 0
  · subst h0
    have z : ((0 : Int) != 0) = false := rfl
    go_enter Try.func50, Try.ntmps50
    go_wp2_with fail
    refine (HC _).out.mono ?_
    rintro e w1 ⟨rfl, rfl⟩
    go_wp2_with fail
    refine (HI _).out.mono ?_
    rintro e w1 ⟨rfl, rfl⟩
    go_wp2_with fail
    go_ret
    exact ⟨ret_int (by rw [HE.out]; simp), rfl⟩
  · have z : (c != 0) = true := by simpa using h0
    have H0 := Lib.hid h0
    clear h0
    go_enter Try.func50, Try.ntmps50
    go_wp2_with fail
    refine (HC _).out.mono ?_
    rintro e w1 ⟨rfl, rfl⟩
    go_wp2_with fail
    go_ret
    exact ⟨ret_int (by rw [HE.out, if_neg H0.out]), rfl⟩
end Go.Proofs.Ytodcnlmodoahjaa
