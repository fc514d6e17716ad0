/- The law's own num and works: handles are made, told, read; no condition but what the row's listed variables hold. -/
import Derived.Test.YtokplbfjpabolaaDoorHGuess
import Derived.Test.YtokplbfjpabolaaDoorHPack
namespace Go.Proofs.YtokplbfjpabolaaDoor
open Go.RowKit

theorem num_nil (w : World) : Calls Tryd.prog 11 #[.nilIface] w fun e w' => e = .returned (.int .i64 0) ∧ w = w' := by
  go_enter Tryd.func11, Tryd.ntmps11
  go_wp2_with fail
  go_ret
  exact ⟨rfl, rfl⟩
theorem as_errno (n : Int) (w : World) : (Instr.typeAssert (.iface 54 (.int .i64 n)) 24 54 true).run Tryd.prog w = .ok (.tuple #[.int .i64 n, .bool true]) w := by kernel_rfl
set_option maxRecDepth 100000 in
theorem num_errno (n : Int) (w : World) : Calls Tryd.prog 11 #[.iface 54 (.int .i64 n)] w fun e w' => e = .returned (.int .i64 n) ∧ w = w' := by
  have ha := as_errno n
  go_enter Tryd.func11, Tryd.ntmps11
  go_wp2_with fail
  go_ret
  exact ⟨rfl, rfl⟩
/-- An error's value, and its number. -/
def ErrV (x : Value) (n : Int) : Prop := (x = .nilIface ∧ n = 0) ∨ x = .iface 54 (.int .i64 n)
theorem num_any (x : Value) (n : Int) (h : ErrV x n) (w : World) : Calls Tryd.prog 11 #[x] w fun e w' => e = .returned (.int .i64 n) ∧ w = w' := by
  rcases h with ⟨rfl, rfl⟩ | rfl
  · exact num_nil w
  · exact num_errno n w

theorem w_ok1 : okP 1 3 7 := by unfold okP; omega
theorem w_mk : mkH 1 3 7 = 1099514773511 := by decide
theorem w_ok2 : okH 1099514773511 := by rw [← w_mk]; exact ok_mk w_ok1
theorem w_ok3 : okH 1099514773512 := by decide
theorem w_ok4 : okH 2199023255553 := by decide
theorem w_gen : gOf 1099514773511 < 1023 := by decide
theorem w_gen2 : gOf 1099514773512 = 8 := by decide
theorem w_kind : kOf 2199023255553 = 2 := by decide
theorem w_text : textL 1099514773511 = [110, 51, 46, 55] := by decide +kernel
theorem w_text2 : textL 2199023255553 = [116, 48, 46, 49] := by decide +kernel
theorem w_bytes : packL [1099514773511] = [1, 0, 0, 48, 0, 7] := by decide +kernel
theorem w_form : ∀ n, (n = 0 ∨ okH n) → (⟨#[110, 48, 51, 46, 55]⟩ : ByteArray).data.toList ≠ textL n := by
  intro n hn e
  have h := rread_text hn
  rw [← e] at h
  have h2 : rreadV (⟨#[110, 48, 51, 46, 55]⟩ : ByteArray).data.toList = (0, 4) := by decide +kernel
  rw [h2] at h
  simp at h

theorem w_make (w : World) : Calls Tryd.prog 9 #[.int .i64 1, .int .i64 3, .int .i64 7] w fun e w' => e = .returned (.tuple #[.int .i64 1099514773511, .nilIface]) ∧ w = w' := by
  rw [← w_mk]; exact make_ok 1 3 7 w w_ok1
theorem w_next (w : World) : Calls Tryd.prog 13 #[.int .i64 1099514773511] w fun e w' => e = .returned (.tuple #[.int .i64 1099514773512, .nilIface]) ∧ w = w' :=
  next_ok 1099514773511 w w_ok2 w_gen
theorem w_read (w : World) (hg : LaidAt w) : Calls Tryd.prog 23 #[.string ⟨#[116, 48, 46, 49]⟩] w fun e w' => e = .returned (.tuple #[.int .i64 2199023255553, .nilIface]) ∧ Below w.heap.size w w' :=
  read_is _ 2199023255553 (.inr w_ok4) (by rw [w_text2]) w hg
theorem w_read2 (w : World) (hg : LaidAt w) : Calls Tryd.prog 23 #[.string ⟨#[110, 48, 51, 46, 55]⟩] w fun e w' => e = .returned (.tuple #[.int .i64 0, .iface 54 (.int .i64 4)]) ∧ Below w.heap.size w w' :=
  read_no _ (by decide) w_form w hg
theorem w_pack (b : Nat) (w : World) (hc : w.cell? ⟨b, 0, none⟩ = some (.int .i64 1099514773511)) : Calls Tryd.prog 27 #[.slice (some ⟨b, 0, none⟩) 1 1] w fun e w' => e = .returned (.tuple #[.string ⟨#[1, 0, 0, 48, 0, 7]⟩, .nilIface]) ∧ Below w.heap.size w w' := by
  have h := pack_ints w (.slice (some ⟨b, 0, none⟩) 1 1) [1099514773511] ⟨_, 1, rfl, by simp, fun j x hx => ⟨b, 0, rfl, by
    match j, hx with
    | 0, hx => simp at hx; subst hx; exact hc
    | j + 1, hx => simp at hx⟩⟩ (by simp)
  rw [packV_ok (by intro z hz; simp at hz; subst hz; exact .inr w_ok2), w_bytes] at h
  exact h
theorem w_genx (w : World) : Calls Tryd.prog 21 #[.int .i64 1099514773512] w fun e w' => e = .returned (.int .i64 8) ∧ w = w' := by
  rw [← w_gen2]; exact gen_ok _ w w_ok3
theorem w_kindy (w : World) : Calls Tryd.prog 17 #[.int .i64 2199023255553] w fun e w' => e = .returned (.int .i64 2) ∧ w = w' := by
  rw [← w_kind]; exact kind_ok _ w w_ok4
theorem w_texth (w : World) (hg : LaidAt w) : Calls Tryd.prog 25 #[.int .i64 1099514773511] w fun e w' => e = .returned (.string ⟨#[110, 51, 46, 55]⟩) ∧ Below w.heap.size w w' := by
  have h := text_any 1099514773511 w hg
  rw [w_text] at h
  exact h

set_option maxHeartbeats 4000000 in
set_option maxRecDepth 100000 in
theorem works_any (w : World) (hg : LaidAt w) : Calls Tryd.prog 12 #[] w fun e w' => e = .returned (.bool true) ∧ Below w.heap.size w w' := by
  have JG := Lib.hid hg
  clear hg
  go_enter Tryd.func12, Tryd.ntmps12
  go_wp2_with fail
  refine (w_make _).mono ?_
  rintro e w1 ⟨rfl, rfl⟩
  go_wp2_with fail
  refine (w_next _).mono ?_
  rintro e w1 ⟨rfl, rfl⟩
  go_wp2_with fail
  refine (w_read _ JG.out).mono ?_
  rintro e w1 ⟨rfl, hb1⟩
  go_wp2_with fail
  refine (w_pack _ _ (by simp)).mono ?_
  rintro e w2 ⟨rfl, hb2⟩
  have hB2 : Below w.heap.size w w2 := (hb1.alloc hb1.size _).trans (hb2.mono (by have := hb1.size; simp; omega))
  go_wp2_with fail
  refine (w_read2 _ (JG.out.below hB2)).mono ?_
  rintro e w3 ⟨rfl, hb3⟩
  have hB3 := bnext hB2 hb3
  go_wp2_with fail
  refine (w_genx _).mono ?_
  rintro e w4 ⟨rfl, rfl⟩
  go_wp2_with fail
  refine (w_texth _ (JG.out.below hB3)).mono ?_
  rintro e w4 ⟨rfl, hb4⟩
  have hB4 := bnext hB3 hb4
  go_wp2_with fail
  refine (w_kindy _).mono ?_
  rintro e w5 ⟨rfl, rfl⟩
  go_wp2_with fail
  refine (num_errno _ _).mono ?_
  rintro e w5 ⟨rfl, rfl⟩
  go_wp2_with fail
  go_ret
  exact ⟨rfl, hB4⟩
end Go.Proofs.YtokplbfjpabolaaDoor
