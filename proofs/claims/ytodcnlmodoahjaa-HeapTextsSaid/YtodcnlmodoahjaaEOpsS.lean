/- The program's Push, Len, Min and Pop of a heap of strings, told by what is in it, in whatever order; no condition but those that each row names. -/
import Derived.Test.YtodcnlmodoahjaaEPushS
import Derived.Test.YtodcnlmodoahjaaEOps
namespace Go.Proofs.Ytodcnlmodoahjaa
open Go.RowKit Go.Maps Hp

section
variable {B : Nat} {S : Nat → Prop} {w : World} {R : List (Int × ByteArray)} {b : Nat}
theorem hp_new_S (w : World) (hB : B ≤ w.heap.size) : HpR kc_S enc_S HT_S NT_S B (fun x => x = w.heap.size) (w.alloc (.cells #[.slice none 0 0, .map none] HT_S)) [] w.heap.size :=
  .inl ⟨⟨heap_alloc_new w _, hB⟩, rfl, fun _ => Iff.rfl⟩
theorem push_S (h : HpR kc_S enc_S HT_S NT_S B S w R b) (id : Int) (key : ByteArray) (hid : In64 id) (hno : ∀ e ∈ R, e.1 ≠ id) (hn : R.length + 1 ≤ 4096) (hB : B ≤ w.heap.size) :
    Calls Try.prog 12 #[.pointer (some ⟨b, 0, none⟩), .int .i64 id, (.string key)] w (fun e w' => e = .returned .nilIface ∧ Come kc_S enc_S HT_S NT_S B S w ((id, key) :: R) b w') := by
  rcases h with ⟨h, rfl, hS⟩ | ⟨L, g, cap, mb, h, hh, hp, hS⟩
  · refine (push_fresh_S h id key hid hB).mono fun e w' ⟨he, L', g, cap, h1, h2, h3, h4, h5⟩ => ⟨he, fun x => x = b ∨ x = g ∨ x = w.heap.size, .inr ⟨L', g, cap, _, h1, h2, h3, fun _ => Iff.rfl⟩, ?_, ?_⟩
    · refine ⟨h4.os, h4.tape, h4.output, h4.size, fun y hy hn => h4.block y hy ?_⟩
      rintro (e | e | e)
      · exact hn ((hS y).2 e)
      · simp [Value.ownBlock] at e
      · omega
    · rintro y (rfl | rfl | rfl)
      · exact .inl ((hS _).2 rfl)
      · rcases h5 with e | e
        · simp [Value.ownBlock] at e
        · exact .inr e
      · exact .inr (Nat.le_refl _)
  · have hno' : ∀ e ∈ L, e.1 ≠ id := fun e he => hno e (hp.mem_iff.1 he)
    refine (push_used_S h hh id key hid hno' (by rw [hp.length_eq]; exact hn) hB).mono fun e w' ⟨he, L', g', cap', h1, h2, h3, h4, h5⟩ => ⟨he, fun x => x = b ∨ x = g' ∨ x = mb, .inr ⟨L', g', cap', mb, h1, h2, h3.trans (List.Perm.cons _ hp), fun _ => Iff.rfl⟩, ?_, ?_⟩
    · refine h4.mono fun y hy => (hS y).2 ?_
      rcases hy with e | e | e
      · exact .inl e
      · simp [Value.ownBlock] at e; exact .inr (.inl e.symm)
      · exact .inr (.inr e)
    · rintro y (rfl | rfl | rfl)
      · exact .inl ((hS _).2 (.inl rfl))
      · rcases h5 with e | e
        · simp [Value.ownBlock] at e; exact .inl ((hS _).2 (.inr (.inl e.symm)))
        · exact .inr e
      · exact .inl ((hS _).2 (.inr (.inr rfl)))
/-- Put in what is there. -/
theorem push_again_S (h : HpR kc_S enc_S HT_S NT_S B S w R b) (id : Int) (key : ByteArray) (hin : ∃ e ∈ R, e.1 = id) :
    Calls Try.prog 12 #[.pointer (some ⟨b, 0, none⟩), .int .i64 id, (.string key)] w (fun e w' => e = .returned (errV 1) ∧ w = w') := by
  obtain ⟨x, hx, rfl⟩ := hin
  rcases h with ⟨h, rfl, hS⟩ | ⟨L, g, cap, mb, h, hh, hp, hS⟩
  · simp at hx
  · obtain ⟨i, hi, rfl⟩ := List.getElem_of_mem (hp.mem_iff.2 hx)
    have HP := Lib.hid (place_yes_S h i hi _ rfl)
    generalize L[i].1 = id at HP
    clear h hh hp hS hi hx
    go_enter Try.func12, Try.ntmps12
    go_wp2_with fail
    refine HP.out.mono ?_
    rintro e w1 ⟨rfl, rfl⟩
    go_wp2_with fail
    go_ret
    exact ⟨rfl, rfl⟩
theorem len_of_S (w : World) (b : Nat) (p : Option Addr) (n c : Nat) (f0 : w.cell? ⟨b, 0, none⟩ = some (.slice p n c)) :
    Calls Try.prog 13 #[.pointer (some ⟨b, 0, none⟩)] w (fun e w' => e = .returned (.int .i64 n) ∧ w = w') := by
  go_enter Try.func13, Try.ntmps13
  go_wp2
  go_ret
  exact ⟨rfl, rfl⟩
theorem len_S (h : HpR kc_S enc_S HT_S NT_S B S w R b) :
    Calls Try.prog 13 #[.pointer (some ⟨b, 0, none⟩)] w (fun e w' => e = .returned (.int .i64 R.length) ∧ w = w') := by
  rcases h with ⟨h, rfl, hS⟩ | ⟨L, g, cap, mb, h, hh, hp, hS⟩
  · exact len_of_S w b _ 0 _ (by rw [cell_of_row _ _ _ _ _ _ h.1]; rfl)
  · exact len_of_S w b _ _ cap (h.len0_S hp.length_eq)
theorem min_none_S (h : HpR kc_S enc_S HT_S NT_S B S w [] b) :
    Calls Try.prog 24 #[.pointer (some ⟨b, 0, none⟩)] w (fun e w' => e = .returned (.tuple #[.int .i64 0, .string ⟨#[]⟩, .bool false]) ∧ w = w') := by
  have HN := Lib.hid (len_S h)
  clear h
  go_enter Try.func24, Try.ntmps24
  go_wp2_with fail
  refine HN.out.mono ?_
  rintro e w1 ⟨rfl, rfl⟩
  go_wp2_with fail
  go_ret3
  exact ⟨rfl, rfl⟩
theorem min_of_S (w : World) (b g cap n : Nat) (id : Int) (key : ByteArray) (hn : 0 < n) (f0 : w.cell? ⟨b, 0, none⟩ = some (.slice (some ⟨g, 0, none⟩) n cap)) (c0 : w.cell? ⟨g, 0, none⟩ = some (.int .i64 id)) (c1 : w.cell? ⟨g, 1, none⟩ = some ((.string key))) :
    Calls Try.prog 24 #[.pointer (some ⟨b, 0, none⟩)] w (fun e w' => e = .returned (.tuple #[.int .i64 id, (.string key), .bool true]) ∧ ∃ k, w' = w.drewN k) := by
  have HN := Lib.hid (len_of_S w b _ n cap f0)
  have z : ((n : Int) == 0) = false := by simp; omega
  have z1 : (0 : Int) < (n : Int) := by omega
  clear hn
  go_enter Try.func24, Try.ntmps24
  go_wp2_with fail
  refine HN.out.mono ?_
  rintro e w1 ⟨rfl, rfl⟩
  go_wp2_with fail
  go_quiet (fail)
  go_wp2_with fail
  go_ret3
  exact ⟨rfl, _, rfl⟩
theorem min_S (h : HpR kc_S enc_S HT_S NT_S B S w R b) (x : Int × ByteArray) (hx : Mn kc_S x R) :
    Calls Try.prog 24 #[.pointer (some ⟨b, 0, none⟩)] w (fun e w' => e = .returned (.tuple #[.int .i64 x.1, (.string x.2), .bool true]) ∧ Below w.heap.size w w') := by
  rcases h with ⟨h, rfl, hS⟩ | ⟨L, g, cap, mb, h, hh, hp, hS⟩
  · have := hx.1; simp at this
  · have h0 : 0 < L.length := by rw [hp.length_eq]; exact List.length_pos_of_mem hx.1
    obtain ⟨c0, c1, _, _⟩ := h.row.cells _ 0 h0
    have e := heap_mn cmp_S hh hp hx h0
    rw [at_get h0] at e
    rw [e] at c0 c1
    exact (min_of_S w b g cap L.length x.1 x.2 h0 h.f0 (by simpa using c0) (by simpa using c1)).mono fun e w' ⟨he, k, hk⟩ => ⟨he, hk ▸ below_drewN (Below.refl _ _) _⟩
theorem pop_none_S (h : HpR kc_S enc_S HT_S NT_S B S w [] b) :
    Calls Try.prog 14 #[.pointer (some ⟨b, 0, none⟩)] w (fun e w' => e = .returned (.tuple #[.int .i64 0, .string ⟨#[]⟩, .bool false]) ∧ w = w') := by
  have HN := Lib.hid (min_none_S h)
  clear h
  go_enter Try.func14, Try.ntmps14
  go_wp2_with fail
  refine HN.out.mono ?_
  rintro e w1 ⟨rfl, rfl⟩
  go_wp2_with fail
  go_ret3
  exact ⟨rfl, rfl⟩
theorem pop_S (h : HpR kc_S enc_S HT_S NT_S B S w R b) (x : Int × ByteArray) (R' : List (Int × ByteArray)) (hx : Mn kc_S x R) (hR : R.Perm (x :: R')) :
    Calls Try.prog 14 #[.pointer (some ⟨b, 0, none⟩)] w (fun e w' => e = .returned (.tuple #[.int .i64 x.1, (.string x.2), .bool true]) ∧ Gone kc_S enc_S HT_S NT_S B S w R' b w') := by
  have HN := Lib.hid (min_S h x hx)
  rcases h with ⟨h, rfl, hS⟩ | ⟨L, g, cap, mb, h, hh, hp, hS⟩
  · have := hx.1; simp at this
  · have h0 : 0 < L.length := by rw [hp.length_eq]; exact List.length_pos_of_mem hx.1
    have HX := Lib.hid (heap_mn cmp_S hh hp hx h0)
    have HT := fun (w1 : World) (hb : Below w.heap.size w w1) => Lib.hid (take_S (h.below hb) hh 0 h0)
    have HP := Lib.hid (hp.trans hR)
    have HS := Lib.hid hS
    obtain ⟨xi, xk⟩ := x
    clear h hh hp hx hS h0
    go_enter Try.func14, Try.ntmps14
    go_wp2_with fail
    refine HN.out.mono ?_
    rintro e w1 ⟨rfl, hb⟩
    have HT1 := HT w1 hb
    have HB := Lib.hid hb
    clear hb HT
    go_wp2_with fail
    refine HT1.out.mono ?_
    rintro e w2 ⟨rfl, ht⟩
    have HG := Lib.hid (ht.gone HS.out HX.out HP.out)
    clear ht
    go_wp2_with fail
    go_ret3
    exact ⟨rfl, HG.out.1, (Keeps.of_below HB.out).trans HG.out.2⟩
end
end Go.Proofs.Ytodcnlmodoahjaa
