/- The document's own answers for numbers (package titheref01): Units, Share, Most, Compare, for every input. -/
import Derived.Test.YtlhgopdlpjmbhaaDoorRef
import Derived.Deep.QuietTactic
import Derived.BigQuiet
namespace Go.Proofs.YtlhgopdlpjmbhaaDoor
open Go.RowKit

theorem rmost_arg (u p : Int) (w : World) (h : ¬ (0 ≤ u ∧ u ≤ 1048576)) :
    Calls Tryd.prog 20 #[.int .i64 u, .int .i64 p] w fun e w' => e = .returned (.tuple #[.int .i64 0, .int .i64 1]) ∧ Below w.heap.size w w' := by
  by_cases h1 : u < 0
  · go_enter Tryd.func20, Tryd.ntmps20
    go_wp2
    go_ret2
    exact ⟨rfl, Below.refl _ _⟩
  · have h2 : 1048576 < u := by omega
    clear h
    go_enter Tryd.func20, Tryd.ntmps20
    go_wp2
    go_ret2
    exact ⟨rfl, Below.refl _ _⟩

theorem rmost_range (u p : Int) (w : World) (h0 : 0 ≤ u) (h9 : u ≤ 1048576) (h : ¬ (1 ≤ p ∧ p ≤ 1048576)) :
    Calls Tryd.prog 20 #[.int .i64 u, .int .i64 p] w fun e w' => e = .returned (.tuple #[.int .i64 0, .int .i64 2]) ∧ Below w.heap.size w w' := by
  by_cases h1 : p < 1
  · go_enter Tryd.func20, Tryd.ntmps20
    go_wp2
    go_ret2
    exact ⟨rfl, Below.refl _ _⟩
  · have h2 : 1048576 < p := by omega
    clear h
    go_enter Tryd.func20, Tryd.ntmps20
    go_wp2
    go_ret2
    exact ⟨rfl, Below.refl _ _⟩

theorem rmost_ok (u p : Int) (w : World) (h0 : 0 ≤ u) (h9 : u ≤ 1048576) (h1 : 1 ≤ p) (h2 : p ≤ 1048576) :
    Calls Tryd.prog 20 #[.int .i64 u, .int .i64 p] w fun e w' => e = .returned (.tuple #[.int .i64 (u * p / 1048576), .int .i64 0]) ∧ Below w.heap.size w w' := by
  obtain ⟨m1, m2⟩ := mul_bd u p h0 h9 (by omega) h2
  go_enter Tryd.func20, Tryd.ntmps20
  go_wp2
  go_ret2
  exact ⟨rfl, Below.refl _ _⟩

theorem runits_ok (q p : Int) (w : World) (h : okR q p) :
    Calls Tryd.prog 27 #[.agg #[.int .i64 q, .int .i64 p]] w fun e w' => e = .returned (.int .i64 (shareOf q p)) ∧ Below w.heap.size w w' := by
  obtain ⟨h1, h2, h3⟩ := h
  go_enter Tryd.func27, Tryd.ntmps27
  go_wp2
  go_ret
  exact ⟨rfl, (Below.refl _ _).alloc (Nat.le_refl _) _⟩

theorem rshare_no (q p : Int) (w : World) (h : ¬ okR q p) :
    Calls Tryd.prog 10 #[.agg #[.int .i64 q, .int .i64 p]] w fun e w' => e = .returned (.tuple #[.int .i64 0, .int .i64 2]) ∧ Below w.heap.size w w' := by
  go_enter Tryd.func10, Tryd.ntmps10
  go_wp2_with (go_at_call 13; refine (rvalid_no q p _ h).mono ?_; rintro e w1 ⟨rfl, hb⟩)
  go_ret2
  exact ⟨rfl, bnext ((Below.refl _ _).alloc (Nat.le_refl _) _) hb⟩

theorem rshare_ok (q p : Int) (w : World) (h : okR q p) :
    Calls Tryd.prog 10 #[.agg #[.int .i64 q, .int .i64 p]] w fun e w' => e = .returned (.tuple #[.int .i64 (shareOf q p), .int .i64 0]) ∧ Below w.heap.size w w' := by
  have H := Lib.hid h
  clear h
  go_enter Tryd.func10, Tryd.ntmps10
  go_wp2_with fail
  refine (rvalid_ok q p _ H.out).mono ?_
  rintro e w1 ⟨rfl, hb⟩
  obtain ⟨hc, hf⟩ := bcell hb
  go_wp2_with fail
  refine (runits_ok q p _ H.out).mono ?_
  rintro e w2 ⟨rfl, hb2⟩
  go_wp2_with fail
  go_ret2
  exact ⟨rfl, bnext (bnext ((Below.refl _ _).alloc (Nat.le_refl _) _) hb) hb2⟩

set_option maxHeartbeats 1000000 in
theorem rcompare_ok (q p r s : Int) (w : World) (h : okR q p) (g : okR r s) :
    Calls Tryd.prog 22 #[.agg #[.int .i64 q, .int .i64 p], .agg #[.int .i64 r, .int .i64 s]] w fun e w' => e = .returned (.tuple #[.int .i64 (cmpI (q * s) (r * p)), .int .i64 0]) ∧ Below w.heap.size w w' := by
  obtain ⟨h1, h2, h3⟩ := id h
  obtain ⟨g1, g2, g3⟩ := id g
  obtain ⟨m1, m2⟩ := mul_bd q s (by omega) (by omega) (by omega) (by omega)
  obtain ⟨n1, n2⟩ := mul_bd r p (by omega) (by omega) (by omega) (by omega)
  have HV1 := Lib.hid h
  have HV2 := Lib.hid g
  clear h g
  have hv : (q * s < r * p ∧ cmpI (q * s) (r * p) = -1) ∨ (r * p < q * s ∧ cmpI (q * s) (r * p) = 1) ∨ (q * s = r * p ∧ cmpI (q * s) (r * p) = 0) := by
    unfold cmpI
    rcases Int.lt_trichotomy (q * s) (r * p) with k | k | k
    · exact .inl ⟨k, if_pos k⟩
    · exact .inr (.inr ⟨k, by rw [if_neg (by omega), if_neg (by omega)]⟩)
    · exact .inr (.inl ⟨k, by rw [if_neg (by omega), if_pos k]⟩)
  rcases hv with ⟨hlt, hv⟩ | ⟨hlt, hv⟩ | ⟨heq, hv⟩
  · rw [hv]; clear hv
    go_enter Tryd.func22, Tryd.ntmps22
    go_wp2_with fail
    refine (rvalid_ok q p _ HV1.out).mono ?_
    rintro e w1 ⟨rfl, hb⟩
    obtain ⟨hc, hf⟩ := bcell hb
    have hz : w.heap.size + 1 < w1.heap.size := by have := hb.size; simp at this; omega
    have hz' : w.heap.size < w1.heap.size := by omega
    go_wp2_with fail
    refine (rvalid_ok r s _ HV2.out).mono ?_
    rintro e w2 ⟨rfl, hb2⟩
    obtain ⟨hc2, hf2⟩ := bcell hb2
    go_wp2_with fail
    go_quiet (fail)
    go_wp2
    go_ret2
    exact ⟨rfl, bnext (bnext (((Below.refl _ _).alloc (Nat.le_refl _) _).alloc (by simp) _) hb) (below_drewN hb2 _)⟩
  · rw [hv]; clear hv
    go_enter Tryd.func22, Tryd.ntmps22
    go_wp2_with fail
    refine (rvalid_ok q p _ HV1.out).mono ?_
    rintro e w1 ⟨rfl, hb⟩
    obtain ⟨hc, hf⟩ := bcell hb
    have hz : w.heap.size + 1 < w1.heap.size := by have := hb.size; simp at this; omega
    have hz' : w.heap.size < w1.heap.size := by omega
    go_wp2_with fail
    refine (rvalid_ok r s _ HV2.out).mono ?_
    rintro e w2 ⟨rfl, hb2⟩
    obtain ⟨hc2, hf2⟩ := bcell hb2
    go_wp2_with fail
    go_quiet (fail)
    go_wp2
    go_ret2
    exact ⟨rfl, bnext (bnext (((Below.refl _ _).alloc (Nat.le_refl _) _).alloc (by simp) _) hb) (below_drewN hb2 _)⟩
  · rw [hv]; clear hv
    have he1 : ¬ q * s < r * p := by omega
    have he2 : ¬ r * p < q * s := by omega
    clear heq
    go_enter Tryd.func22, Tryd.ntmps22
    go_wp2_with fail
    refine (rvalid_ok q p _ HV1.out).mono ?_
    rintro e w1 ⟨rfl, hb⟩
    obtain ⟨hc, hf⟩ := bcell hb
    have hz : w.heap.size + 1 < w1.heap.size := by have := hb.size; simp at this; omega
    have hz' : w.heap.size < w1.heap.size := by omega
    go_wp2_with fail
    refine (rvalid_ok r s _ HV2.out).mono ?_
    rintro e w2 ⟨rfl, hb2⟩
    obtain ⟨hc2, hf2⟩ := bcell hb2
    go_wp2_with fail
    go_quiet (fail)
    go_wp2
    go_ret2
    exact ⟨rfl, bnext (bnext (((Below.refl _ _).alloc (Nat.le_refl _) _).alloc (by simp) _) hb) (below_drewN hb2 _)⟩

theorem rcompare_no (q p r s : Int) (w : World) (h : ¬ (okR q p ∧ okR r s)) :
    Calls Tryd.prog 22 #[.agg #[.int .i64 q, .int .i64 p], .agg #[.int .i64 r, .int .i64 s]] w fun e w' => e = .returned (.tuple #[.int .i64 0, .int .i64 2]) ∧ Below w.heap.size w w' := by
  by_cases g : okR q p
  · have g2 : ¬ okR r s := fun k => h ⟨g, k⟩
    clear h
    go_enter Tryd.func22, Tryd.ntmps22
    go_wp2_with fail
    refine (rvalid_ok q p _ g).mono ?_
    rintro e w1 ⟨rfl, hb⟩
    obtain ⟨hc, hf⟩ := bcell hb
    go_wp2_with fail
    refine (rvalid_no r s _ g2).mono ?_
    rintro e w2 ⟨rfl, hb2⟩
    go_wp2_with fail
    go_ret2
    exact ⟨rfl, bnext (bnext (((Below.refl _ _).alloc (Nat.le_refl _) _).alloc (by simp) _) hb) hb2⟩
  · clear h
    go_enter Tryd.func22, Tryd.ntmps22
    go_wp2_with fail
    refine (rvalid_no q p _ g).mono ?_
    rintro e w1 ⟨rfl, hb⟩
    go_wp2_with fail
    go_ret2
    exact ⟨rfl, bnext (((Below.refl _ _).alloc (Nat.le_refl _) _).alloc (by simp) _) hb⟩
end Go.Proofs.YtlhgopdlpjmbhaaDoor
