/- Errors in a world: what a value of type error is; what stays of it; Unwrap of each link; no condition. -/
import Derived.Test.YtlnamkplbikcjaaGreatDoorYTypes
import Derived.Test.YtlnamkplbikcjaaGreatDoorYBldW
namespace Go.Proofs.YtlnamkplbikcjaaGreatDoor
open Go.RowKit Ft

/-- v is the error e in the world w; all of its blocks lie below N. -/
def EV (N : Nat) (w : World) : Er → Value → Prop
  | .nil, v => v = .nilIface
  | .num n, v => v = .iface 39 (.int .i64 n)
  | .fault op h e, v => ∃ b x, v = .iface 46 (.pointer (some ⟨b, 0, none⟩)) ∧ b < N ∧ w.cell? ⟨b, 0, none⟩ = some (.int .i64 op) ∧ w.cell? ⟨b, 1, none⟩ = some (.int .i64 h) ∧ w.cell? ⟨b, 2, none⟩ = some x ∧ EV N w e x
  | .place n e, v => ∃ b x, v = .iface 50 (.pointer (some ⟨b, 0, none⟩)) ∧ b < N ∧ w.cell? ⟨b, 0, none⟩ = some (.int .i64 n) ∧ w.cell? ⟨b, 1, none⟩ = some x ∧ EV N w e x
  | .pair a c, v => ∃ b x y, v = .iface 53 (.pointer (some ⟨b, 0, none⟩)) ∧ b < N ∧ w.cell? ⟨b, 0, none⟩ = some x ∧ w.cell? ⟨b, 1, none⟩ = some y ∧ EV N w a x ∧ EV N w c y
  | .odd s, v => v = .iface 57 (.agg #[.string s])
  | .nF, v => v = .iface 46 (.pointer none)
  | .nP, v => v = .iface 50 (.pointer none)
  | .nQ, v => v = .iface 53 (.pointer none)
theorem EV.keep {N : Nat} {w w' : World} (hb : Below N w w') : ∀ {e : Er} {v : Value}, EV N w e v → EV N w' e v := by
  intro e
  induction e with
  | nil => exact fun h => h
  | num => exact fun h => h
  | odd => exact fun h => h
  | nF => exact fun h => h
  | nP => exact fun h => h
  | nQ => exact fun h => h
  | fault op h e ih =>
    rintro v ⟨b, x, rfl, hl, c0, c1, c2, he⟩
    exact ⟨b, x, rfl, hl, (hb.cell (p := ⟨b, 0, none⟩) hl).trans c0, (hb.cell (p := ⟨b, 1, none⟩) hl).trans c1, (hb.cell (p := ⟨b, 2, none⟩) hl).trans c2, ih he⟩
  | place n e ih =>
    rintro v ⟨b, x, rfl, hl, c0, c1, he⟩
    exact ⟨b, x, rfl, hl, (hb.cell (p := ⟨b, 0, none⟩) hl).trans c0, (hb.cell (p := ⟨b, 1, none⟩) hl).trans c1, ih he⟩
  | pair a c iha ihc =>
    rintro v ⟨b, x, y, rfl, hl, c0, c1, ha, hc⟩
    exact ⟨b, x, y, rfl, hl, (hb.cell (p := ⟨b, 0, none⟩) hl).trans c0, (hb.cell (p := ⟨b, 1, none⟩) hl).trans c1, iha ha, ihc hc⟩
theorem EV.up {N M : Nat} {w : World} (hm : N ≤ M) : ∀ {e : Er} {v : Value}, EV N w e v → EV M w e v := by
  intro e
  induction e with
  | nil => exact fun h => h
  | num => exact fun h => h
  | odd => exact fun h => h
  | nF => exact fun h => h
  | nP => exact fun h => h
  | nQ => exact fun h => h
  | fault op h e ih =>
    rintro v ⟨b, x, rfl, hl, c0, c1, c2, he⟩
    exact ⟨b, x, rfl, Nat.lt_of_lt_of_le hl hm, c0, c1, c2, ih he⟩
  | place n e ih =>
    rintro v ⟨b, x, rfl, hl, c0, c1, he⟩
    exact ⟨b, x, rfl, Nat.lt_of_lt_of_le hl hm, c0, c1, ih he⟩
  | pair a c iha ihc =>
    rintro v ⟨b, x, y, rfl, hl, c0, c1, ha, hc⟩
    exact ⟨b, x, y, rfl, Nat.lt_of_lt_of_le hl hm, c0, c1, iha ha, ihc hc⟩
/-- What lay below stays, and all that was made ahead of it. -/
theorem EV.below {w w' : World} {e : Er} {v : Value} (h : EV w.heap.size w e v) (hb : Below w.heap.size w w') : EV w'.heap.size w' e v := (h.keep hb).up hb.size

/-- So many blocks the listed variables want. -/
def LB (B : Nat) : Prop := 1 < B ∧ 0 < B ∧ 2 < B
theorem gPow : Tryz.prog.globalNamed "internal/strconv.uint64pow10" = some 2 := by kernel_rfl
theorem LaidAt.size {w : World} (h : LaidAt w) : LB w.heap.size := by
  refine ⟨cell_blk (h.ops 0 (by omega)), cell_blk h.err, ?_⟩
  have ht := h.tab
  unfold Lib.TabIs World.var? at ht
  rw [gPow] at ht
  simp only [Option.bind_some] at ht
  rcases Nat.lt_or_ge 2 w.heap.size with h' | h'
  · exact h'
  · rw [Array.getElem?_eq_none h'] at ht; simp at ht
theorem LaidAt.keep {w w' : World} {B : Nat} (h : LaidAt w) (hB : LB B) (hb : Below B w w') : LaidAt w' := by
  refine ⟨?_, fun i hi => ?_, ?_⟩
  · have ht := h.tab
    unfold Lib.TabIs World.var? at *
    rw [gPow] at ht ⊢
    simp only [Option.bind_some] at ht ⊢
    rw [hb.block _ hB.2.2]
    exact ht
  · rw [hb.cell (p := ⟨1, i, none⟩) hB.1]; exact h.ops i hi
  · rw [hb.cell (p := ⟨0, 0, none⟩) hB.2.1]; exact h.err
theorem LB.up {B C : Nat} (h : LB B) (hc : B ≤ C) : LB C := ⟨Nat.lt_of_lt_of_le h.1 hc, Nat.lt_of_lt_of_le h.2.1 hc, Nat.lt_of_lt_of_le h.2.2 hc⟩

/-! Unwrap of each link. -/
theorem un_flt (b : Nat) (x : Value) (w : World) (c2 : w.cell? ⟨b, 2, none⟩ = some x) : Calls Tryz.prog 104 #[.pointer (some ⟨b, 0, none⟩)] w fun e w' => e = .returned x ∧ w' = w := by
  go_enter Tryz.func104, Tryz.ntmps104
  go_wp2_with fail
  go_ret
  exact ⟨rfl, rfl⟩
theorem un_fltn (w : World) : Calls Tryz.prog 104 #[.pointer none] w fun e w' => e = .returned .nilIface ∧ w' = w := by
  go_enter Tryz.func104, Tryz.ntmps104
  go_wp2_with fail
  go_ret
  exact ⟨rfl, rfl⟩
theorem un_plc (b : Nat) (x : Value) (w : World) (c2 : w.cell? ⟨b, 1, none⟩ = some x) : Calls Tryz.prog 105 #[.pointer (some ⟨b, 0, none⟩)] w fun e w' => e = .returned x ∧ w' = w := by
  go_enter Tryz.func105, Tryz.ntmps105
  go_wp2_with fail
  go_ret
  exact ⟨rfl, rfl⟩
theorem un_plcn (w : World) : Calls Tryz.prog 105 #[.pointer none] w fun e w' => e = .returned .nilIface ∧ w' = w := by
  go_enter Tryz.func105, Tryz.ntmps105
  go_wp2_with fail
  go_ret
  exact ⟨rfl, rfl⟩
theorem un_parn (w : World) : Calls Tryz.prog 106 #[.pointer none] w fun e w' => e = .returned (.slice none 0 0) ∧ w' = w := by
  go_enter Tryz.func106, Tryz.ntmps106
  go_wp2_with fail
  go_ret
  exact ⟨rfl, rfl⟩
/-- The form of an error's value. -/
def IV (v : Value) : Prop := v = .nilIface ∨ ∃ t p, v = .iface t p
theorem EV.form {N : Nat} {w : World} {e : Er} {v : Value} (h : EV N w e v) : IV v := by
  cases e with
  | nil => exact .inl h
  | num => exact .inr ⟨_, _, h⟩
  | odd => exact .inr ⟨_, _, h⟩
  | nF => exact .inr ⟨_, _, h⟩
  | nP => exact .inr ⟨_, _, h⟩
  | nQ => exact .inr ⟨_, _, h⟩
  | fault op hh e => obtain ⟨b, x, hv, _⟩ := h; exact .inr ⟨_, _, hv⟩
  | place n e => obtain ⟨b, x, hv, _⟩ := h; exact .inr ⟨_, _, hv⟩
  | pair a c => obtain ⟨b, x, y, hv, _⟩ := h; exact .inr ⟨_, _, hv⟩
set_option maxHeartbeats 1000000 in
theorem un_par (b : Nat) (x y : Value) (w : World) (hx : IV x) (hy : IV y) (c0 : w.cell? ⟨b, 0, none⟩ = some x) (c1 : w.cell? ⟨b, 1, none⟩ = some y) :
    Calls Tryz.prog 106 #[.pointer (some ⟨b, 0, none⟩)] w fun e w' => e = .returned (.slice (some ⟨w.heap.size, 0, none⟩) 2 2) ∧ w'.cell? ⟨w.heap.size, 0, none⟩ = some x ∧ w'.cell? ⟨w.heap.size, 1, none⟩ = some y ∧ Below w.heap.size w w' ∧ w.heap.size < w'.heap.size := by
  rcases hx with rfl | ⟨t, p, rfl⟩ <;> rcases hy with rfl | ⟨t', p', rfl⟩ <;>
  · go_enter Tryz.func106, Tryz.ntmps106
    go_wp2_with fail
    go_region
    all_goals (go_wp2_with fail; go_ret; exact ⟨rfl, by simp, by simp, (by repeat (first | exact Below.refl _ _ | (with_reducible assumption) | refine Below.drew ?_ | (refine Below.alloc ?_ (by first | exact Nat.le_refl _ | omega | (simp; done) | (simp; omega)) _) | (refine Below.setCell ?_ (by first | omega | (simp; done) | (simp; omega)) _))), by simp⟩)
theorem EV.iface {N : Nat} {w : World} {e : Er} {v : Value} (h : EV N w e v) (hn : e ≠ .nil) : ∃ t p, v = .iface t p := by
  rcases h.form with h1 | h1
  · subst h1
    cases e with
    | nil => exact absurd rfl hn
    | num => cases h
    | odd => cases h
    | nF => cases h
    | nP => cases h
    | nQ => cases h
    | fault op hh e => obtain ⟨b, x, hv, _⟩ := h; cases hv
    | place n e => obtain ⟨b, x, hv, _⟩ := h; cases hv
    | pair a c => obtain ⟨b, x, y, hv, _⟩ := h; cases hv
  · exact h1
/-- Between two worlds that both stand on a third one's lower part nothing differs there. -/
theorem EV.keep' {N : Nat} {w a b : World} {e : Er} {v : Value} (h : EV N a e v) (ha : Below w.heap.size w a) (hb : Below w.heap.size w b) (hN : N ≤ w.heap.size) : EV N b e v := by
  have hc : ∀ q o, q < N → b.cell? ⟨q, o, none⟩ = a.cell? ⟨q, o, none⟩ := fun q o hq => by
    rw [hb.cell (p := ⟨q, o, none⟩) (Nat.lt_of_lt_of_le hq hN), ha.cell (p := ⟨q, o, none⟩) (Nat.lt_of_lt_of_le hq hN)]
  induction e generalizing v with
  | nil => exact h
  | num => exact h
  | odd => exact h
  | nF => exact h
  | nP => exact h
  | nQ => exact h
  | fault op hh e ih =>
    obtain ⟨k, x, rfl, hl, c0, c1, c2, he⟩ := h
    exact ⟨k, x, rfl, hl, (hc k 0 hl).trans c0, (hc k 1 hl).trans c1, (hc k 2 hl).trans c2, ih he⟩
  | place n e ih =>
    obtain ⟨k, x, rfl, hl, c0, c1, he⟩ := h
    exact ⟨k, x, rfl, hl, (hc k 0 hl).trans c0, (hc k 1 hl).trans c1, ih he⟩
  | pair p q ihp ihq =>
    obtain ⟨k, x, y, rfl, hl, c0, c1, hp, hq⟩ := h
    exact ⟨k, x, y, rfl, hl, (hc k 0 hl).trans c0, (hc k 1 hl).trans c1, ihp hp, ihq hq⟩
/-- Where errors.as puts what it finds. -/
def AsPre (a t : Addr) (w : World) : Prop := w.cell? a = some (.pointer (some t)) ∧ (∃ old, w.cell? t = some old) ∧ w.frozen? t = false
theorem AsPre.below {a t : Addr} {w w' : World} (h : AsPre a t w) (hb : Below w.heap.size w w') : AsPre a t w' := by
  obtain ⟨h1, ⟨o, h2⟩, h3⟩ := h
  exact ⟨(hb.cell (cell_blk h1)).trans h1, ⟨o, (hb.cell (cell_blk h2)).trans h2⟩, (hb.frozen (cell_blk h2)).trans h3⟩
end Go.Proofs.YtlnamkplbikcjaaGreatDoor
