/- The laws' errors as plain data: trees in a world; what they hold below; the error that each one is; no condition. -/
import Derived.Test.YtlnamkplbikcjaaGreatDoorYMath
import Derived.Test.YtlnamkplbikcjaaGreatDoorNKeep
namespace Go.Proofs.YtlnamkplbikcjaaGreatDoor
open Go.RowKit Ft

namespace Ft
/-- A tree; of what lies below only the first two are looked at. -/
inductive Dt where
  | nil
  | mk (k op h n : Int) (t : ByteArray) (m : Nat) (a b : Dt)
def Dt.k : Dt → Int
  | .nil => 0
  | .mk k _ _ _ _ _ _ _ => k
def Dt.op : Dt → Int
  | .nil => 0
  | .mk _ op _ _ _ _ _ _ => op
def Dt.h : Dt → Int
  | .nil => 0
  | .mk _ _ h _ _ _ _ _ => h
def Dt.n : Dt → Int
  | .nil => 0
  | .mk _ _ _ n _ _ _ _ => n
def Dt.t : Dt → ByteArray
  | .nil => ⟨#[]⟩
  | .mk _ _ _ _ t _ _ _ => t
def Dt.m : Dt → Nat
  | .nil => 0
  | .mk _ _ _ _ _ m _ _ => m
/-- What it wraps. -/
def Dt.kid0 : Dt → Dt
  | .nil => .nil
  | .mk _ _ _ _ _ m a _ => if 0 < m then a else .nil
def Dt.kid1 : Dt → Dt
  | .nil => .nil
  | .mk _ _ _ _ _ m _ b => if 1 < m then b else .nil
theorem Dt.kid0_mk (k op h n : Int) (t : ByteArray) (m : Nat) (a b : Dt) : (Dt.mk k op h n t m a b).kid0 = if 0 < m then a else .nil := rfl
theorem Dt.kid1_mk (k op h n : Int) (t : ByteArray) (m : Nat) (a b : Dt) : (Dt.mk k op h n t m a b).kid1 = if 1 < m then b else .nil := rfl
/-- The error that a tree is. -/
def Dt.toE : Dt → Er
  | .nil => .nil
  | .mk k op h n t m a b =>
    if k = 1 then .num n
    else if k = 2 then .fault op h (if 0 < m then a.toE else .nil)
    else if k = 3 then .place n (if 0 < m then a.toE else .nil)
    else if k = 4 then .pair (if 0 < m then a.toE else .nil) (if 1 < m then b.toE else .nil)
    else if k = 5 then .odd t
    else if k = 6 then .nF
    else if k = 7 then .nP
    else if k = 8 then .nQ
    else .nil
theorem Dt.toE_eq (d : Dt) : d.toE =
    if d.k = 1 then .num d.n
    else if d.k = 2 then .fault d.op d.h d.kid0.toE
    else if d.k = 3 then .place d.n d.kid0.toE
    else if d.k = 4 then .pair d.kid0.toE d.kid1.toE
    else if d.k = 5 then .odd d.t
    else if d.k = 6 then .nF
    else if d.k = 7 then .nP
    else if d.k = 8 then .nQ
    else .nil := by
  cases d with
  | nil => rfl
  | mk k op h n t m a b =>
    have e0 : (if 0 < m then a.toE else Er.nil) = (if 0 < m then a else .nil : Dt).toE := by split <;> rfl
    have e1 : (if 1 < m then b.toE else Er.nil) = (if 1 < m then b else .nil : Dt).toE := by split <;> rfl
    rw [Dt.toE, e0, e1]
    rfl
/-- Every number in it is an int. -/
def Dt.ok : Dt → Prop
  | .nil => True
  | .mk k op h n _ _ a b => I64 k ∧ I64 op ∧ I64 h ∧ I64 n ∧ a.ok ∧ b.ok
theorem Dt.ok_kid0 {d : Dt} (h : d.ok) : d.kid0.ok := by
  cases d with
  | nil => trivial
  | mk k op hh n t m a b =>
    rw [Dt.kid0_mk]
    by_cases hm : 0 < m
    · rw [if_pos hm]; exact h.2.2.2.2.1
    · rw [if_neg hm]; trivial
theorem Dt.ok_kid1 {d : Dt} (h : d.ok) : d.kid1.ok := by
  cases d with
  | nil => trivial
  | mk k op hh n t m a b =>
    rw [Dt.kid1_mk]
    by_cases hm : 1 < m
    · rw [if_pos hm]; exact h.2.2.2.2.2
    · rw [if_neg hm]; trivial
theorem Dt.ok_n {d : Dt} (h : d.ok) : I64 d.n := by
  cases d with
  | nil => simp [Dt.n, I64]
  | mk k op hh n t m a b => exact h.2.2.2.1
theorem Dt.ok_op {d : Dt} (h : d.ok) : I64 d.op := by
  cases d with
  | nil => simp [Dt.op, I64]
  | mk k op hh n t m a b => exact h.2.1
theorem Dt.ok_h {d : Dt} (h : d.ok) : I64 d.h := by
  cases d with
  | nil => simp [Dt.h, I64]
  | mk k op hh n t m a b => exact h.2.2.1
theorem Dt.ok_toE {d : Dt} (h : d.ok) : d.toE.ok := by
  induction d with
  | nil => trivial
  | mk k op hh n t m a b iha ihb =>
    obtain ⟨h1, h2, h3, h4, h5, h6⟩ := h
    have ea : (if 0 < m then a.toE else Er.nil).ok := by
      by_cases hm : 0 < m
      · rw [if_pos hm]; exact iha h5
      · rw [if_neg hm]; trivial
    have eb : (if 1 < m then b.toE else Er.nil).ok := by
      by_cases hm : 1 < m
      · rw [if_pos hm]; exact ihb h6
      · rw [if_neg hm]; trivial
    unfold Dt.toE
    generalize (if 0 < m then a.toE else Er.nil) = x at *
    generalize (if 1 < m then b.toE else Er.nil) = y at *
    repeat' split
    all_goals first | exact h4 | exact ⟨h2, h3, ea⟩ | exact ⟨h4, ea⟩ | exact ⟨ea, eb⟩ | trivial
end Ft

/-- The six cells of a tree in a row. -/
def EltAt (w : World) (b o : Nat) (x : Value) : Prop := ∃ c0 c1 c2 c3 c4 c5, x = .agg #[c0, c1, c2, c3, c4, c5] ∧ w.cell? ⟨b, o, none⟩ = some c0 ∧ w.cell? ⟨b, o + 1, none⟩ = some c1 ∧ w.cell? ⟨b, o + 2, none⟩ = some c2 ∧ w.cell? ⟨b, o + 3, none⟩ = some c3 ∧ w.cell? ⟨b, o + 4, none⟩ = some c4 ∧ w.cell? ⟨b, o + 5, none⟩ = some c5
theorem EltAt.below {w w' : World} {b o : Nat} {x : Value} (h : EltAt w b o x) (hb : Below w.heap.size w w') : EltAt w' b o x := by
  obtain ⟨c0, c1, c2, c3, c4, c5, e, h0, h1, h2, h3, h4, h5⟩ := h
  have hl : b < w.heap.size := cell_lt h0
  exact ⟨c0, c1, c2, c3, c4, c5, e, (hb.cell (p := ⟨b, o, none⟩) hl).trans h0, (hb.cell (p := ⟨b, o + 1, none⟩) hl).trans h1, (hb.cell (p := ⟨b, o + 2, none⟩) hl).trans h2, (hb.cell (p := ⟨b, o + 3, none⟩) hl).trans h3, (hb.cell (p := ⟨b, o + 4, none⟩) hl).trans h4, (hb.cell (p := ⟨b, o + 5, none⟩) hl).trans h5⟩
/-- v is the tree in the world w. -/
def DV (w : World) : Dt → Value → Prop
  | .nil, v => v = .agg #[.int .i64 0, .int .i64 0, .int .i64 0, .int .i64 0, .string ⟨#[]⟩, .slice none 0 0]
  | .mk k op h n t m a b, v => ∃ p cap, v = .agg #[.int .i64 k, .int .i64 op, .int .i64 h, .int .i64 n, .string t, .slice p m cap] ∧ m ≤ 9223372036854775807 ∧
      (0 < m → ∃ g off x, p = some ⟨g, off, none⟩ ∧ EltAt w g off x ∧ DV w a x) ∧ (1 < m → ∃ g off x, p = some ⟨g, off, none⟩ ∧ EltAt w g (off + 6) x ∧ DV w b x)
theorem DV.below {w w' : World} (hb : Below w.heap.size w w') : ∀ {d : Dt} {v : Value}, DV w d v → DV w' d v := by
  intro d
  induction d with
  | nil => exact fun h => h
  | mk k op h n t m a b iha ihb =>
    rintro v ⟨p, cap, e, hm, h0, h1⟩
    refine ⟨p, cap, e, hm, fun h => ?_, fun h => ?_⟩
    · obtain ⟨g, off, x, e1, e2, e3⟩ := h0 h
      exact ⟨g, off, x, e1, e2.below hb, iha e3⟩
    · obtain ⟨g, off, x, e1, e2, e3⟩ := h1 h
      exact ⟨g, off, x, e1, e2.below hb, ihb e3⟩
/-- Its six parts. -/
theorem DV.parts {w : World} {d : Dt} {v : Value} (h : DV w d v) : ∃ p cap, v = .agg #[.int .i64 d.k, .int .i64 d.op, .int .i64 d.h, .int .i64 d.n, .string d.t, .slice p d.m cap] ∧ d.m ≤ 9223372036854775807 ∧
    (0 < d.m → ∃ g off x, p = some ⟨g, off, none⟩ ∧ EltAt w g off x ∧ DV w d.kid0 x) ∧ (1 < d.m → ∃ g off x, p = some ⟨g, off, none⟩ ∧ EltAt w g (off + 6) x ∧ DV w d.kid1 x) := by
  cases d with
  | nil => exact ⟨none, 0, h, by simp [Dt.m], fun h => absurd h (by simp [Dt.m]), fun h => absurd h (by simp [Dt.m])⟩
  | mk k op hh n t m a b =>
    obtain ⟨p, cap, e, hm, h0, h1⟩ := h
    refine ⟨p, cap, e, hm, fun hp => ?_, fun hp => ?_⟩
    · obtain ⟨g, off, x, e1, e2, e3⟩ := h0 hp
      exact ⟨g, off, x, e1, e2, by rw [Dt.kid0_mk, if_pos (show 0 < m from hp)]; exact e3⟩
    · obtain ⟨g, off, x, e1, e2, e3⟩ := h1 hp
      exact ⟨g, off, x, e1, e2, by rw [Dt.kid1_mk, if_pos (show 1 < m from hp)]; exact e3⟩
theorem kid0_no {d : Dt} (h : ¬ 0 < d.m) : d.kid0 = .nil := by
  cases d with
  | nil => rfl
  | mk k op hh n t m a b => rw [Dt.kid0_mk]; exact if_neg h
theorem kid1_no {d : Dt} (h : ¬ 1 < d.m) : d.kid1 = .nil := by
  cases d with
  | nil => rfl
  | mk k op hh n t m a b => rw [Dt.kid1_mk]; exact if_neg h
/-- A tree in a row: its cells. -/
theorem elt_parts {w : World} {g o : Nat} {d : Dt} {x : Value} (h : EltAt w g o x) (hx : DV w d x) : ∃ p cap, x = .agg #[.int .i64 d.k, .int .i64 d.op, .int .i64 d.h, .int .i64 d.n, .string d.t, .slice p d.m cap] ∧
    w.cell? ⟨g, o, none⟩ = some (.int .i64 d.k) ∧ w.cell? ⟨g, o + 1, none⟩ = some (.int .i64 d.op) ∧ w.cell? ⟨g, o + 2, none⟩ = some (.int .i64 d.h) ∧ w.cell? ⟨g, o + 3, none⟩ = some (.int .i64 d.n) ∧ w.cell? ⟨g, o + 4, none⟩ = some (.string d.t) ∧ w.cell? ⟨g, o + 5, none⟩ = some (.slice p d.m cap) := by
  obtain ⟨c0, c1, c2, c3, c4, c5, rfl, h0, h1, h2, h3, h4, h5⟩ := h
  obtain ⟨p, cap, e, _⟩ := hx.parts
  injection e with e
  simp at e
  obtain ⟨rfl, rfl, rfl, rfl, rfl, rfl⟩ := e
  exact ⟨p, cap, rfl, h0, h1, h2, h3, h4, h5⟩
end Go.Proofs.YtlnamkplbikcjaaGreatDoor
