/- What comes in opened to cells: acts (a kind, which handle, a priority, a job of four numbers), one and a slice of them; no condition but those that each row names. -/
import Derived.Test.YtedgchafligndaaGreatJB2
import Derived.OpenShut
import Derived.Deep.Slices
import Derived.ChangeSame
import Derived.ChangeMaps5
import Derived.SizedLaws
import Derived.Lib.SmallJoins
import Derived.WideShapes
namespace Go.Proofs.YtedgchafligndaaGreat
open Go.ChangeShapes Go.WideShapes Go.RowKit Go.ChangeMaps Go.Deep Tsk

namespace Tsk
/-- An operation. -/
structure Oz where
  k : Int
  n : Int
  h : Int
  j : Jb
end Tsk
/-- A slice of operations as a function of the place. -/
def Opsz (w : World) (v : Value) (m : Nat) (O : Nat → Oz) : Prop :=
  ∃ p cap, v = .slice p m cap ∧ m ≤ 9223372036854775807 ∧ ∀ j, j < m → ∃ b off, p = some ⟨b, off, none⟩ ∧ w.cell? ⟨b, off + j * 7, none⟩ = some (.int .i64 (O j).k) ∧ w.cell? ⟨b, off + j * 7 + 1, none⟩ = some (.int .i64 (O j).n) ∧ w.cell? ⟨b, off + j * 7 + 2, none⟩ = some (.int .i64 (O j).h) ∧
    w.cell? ⟨b, off + j * 7 + 3, none⟩ = some (.int .i64 (O j).j.l) ∧ w.cell? ⟨b, off + j * 7 + 4, none⟩ = some (.int .i64 (O j).j.c) ∧ w.cell? ⟨b, off + j * 7 + 5, none⟩ = some (.int .i64 (O j).j.a) ∧ w.cell? ⟨b, off + j * 7 + 6, none⟩ = some (.int .i64 (O j).j.d)
theorem Opsz.below {w w' : World} {v : Value} {m : Nat} {O : Nat → Oz} (h : Opsz w v m O) (hb : Below w.heap.size w w') : Opsz w' v m O := by
  obtain ⟨p, cap, e, hl, hc⟩ := h
  refine ⟨p, cap, e, hl, fun j hj => ?_⟩
  obtain ⟨b, off, e2, c0, c1, c2, c3, c4, c5, c6⟩ := hc j hj
  have hl := cell_lt c0
  have k := fun (o : Nat) => hb.cell (p := ⟨b, o, none⟩) hl
  exact ⟨b, off, e2, (k _).trans c0, (k _).trans c1, (k _).trans c2, (k _).trans c3, (k _).trans c4, (k _).trans c5, (k _).trans c6⟩
theorem cellsOz : Tryz.prog.cellsOf 54 = 7 := by kernel_rfl
theorem cellsIntz : Tryz.prog.cellsOf 3 = 1 := by kernel_rfl
theorem cellsJz : Tryz.prog.cellsOf 45 = 4 := by kernel_rfl
theorem laidOutz : laidOutB Tryz.prog = true := by kernel_rfl
theorem plain_addrz {w : World} {a : Addr} {v : Value} (h : w.cell? a = some v) : ∃ b off, a = ⟨b, off, none⟩ := by
  obtain ⟨b, off, spot⟩ := a
  have hs : spot = none := World.cell?_spot h
  subst hs
  exact ⟨b, off, rfl⟩

section
variable {H : Type} {enc : TypeId × Value → H} {w : World} {spare : Nat → Bool} {held : Bool}

set_option maxRecDepth 100000 in
/-- A slice of operations. -/
theorem open_acts {fuel : Nat} {v : Value} {x : DataW H × List MemPlace} (h : DataW.trod enc Tryz.prog w 0 spare held fuel 27 [v] = some x) : ∃ m O, Opsz w v m O := by
  rcases open_slice Tryz.underlying27 h with ⟨hc, _⟩ | ⟨a, len, cap, m, n, D, Pl, hcs, _, hl, hm, hmm, _, hi⟩
  · simp at hc
    subst hc
    exact ⟨0, fun _ => ⟨0, 0, 0, ⟨0, 0, 0, 0⟩⟩, none, 0, rfl, by omega, fun j hj => by omega⟩
  · simp at hcs
    subst hcs
    have hlm : len ≤ m := by rw [hmm]; split <;> omega
    have hpl : 0 < len → ∃ b off, a = ⟨b, off, none⟩ := fun h0 => by
      obtain ⟨cs', hc, _⟩ := hi 0 (by omega)
      rw [cellsOz] at hc
      obtain ⟨_, hcl, hat⟩ := World.cells?_some hc
      match cs', hcl with
      | [u0, u1, u2, u3, u4, u5, u6], _ =>
        have h0 := hat 0 (by simp)
        simp only [List.getElem?_cons_zero] at h0
        exact plain_addrz (by simpa [Addr.add] using h0)
    have hel : ∀ i, i < len → ∃ q : Oz, ∃ b off, a = ⟨b, off, none⟩ ∧ w.cell? ⟨b, off + i * 7, none⟩ = some (.int .i64 q.k) ∧ w.cell? ⟨b, off + i * 7 + 1, none⟩ = some (.int .i64 q.n) ∧ w.cell? ⟨b, off + i * 7 + 2, none⟩ = some (.int .i64 q.h) ∧
        w.cell? ⟨b, off + i * 7 + 3, none⟩ = some (.int .i64 q.j.l) ∧ w.cell? ⟨b, off + i * 7 + 4, none⟩ = some (.int .i64 q.j.c) ∧ w.cell? ⟨b, off + i * 7 + 5, none⟩ = some (.int .i64 q.j.a) ∧ w.cell? ⟨b, off + i * 7 + 6, none⟩ = some (.int .i64 q.j.d) := fun i hil => by
      obtain ⟨cs', hc, ht⟩ := hi i (by omega)
      rw [cellsOz] at hc
      obtain ⟨_, hcl, hat⟩ := World.cells?_some hc
      obtain ⟨xs, n', _, _, _, hxl, hf⟩ := DataW.trod_struct Tryz.underlying54 ht
      match cs', hcl with
      | [u0, u1, u2, u3, u4, u5, u6], _ =>
        have g0 := hf 0 _ rfl
        have g1 := hf 1 _ rfl
        have g2 := hf 2 _ rfl
        have g3 := hf 3 _ rfl
        simp [cellsIntz, cellsJz] at g0 g1 g2 g3
        match xs, hxl with
        | [y0, y1, y2, y3], _ =>
          obtain ⟨z0, e0, _, _⟩ := DataW.trod_int Tryz.underlying3 g0
          obtain ⟨z1, e1, _, _⟩ := DataW.trod_int Tryz.underlying3 g1
          obtain ⟨z2, e2, _, _⟩ := DataW.trod_int Tryz.underlying3 g2
          obtain ⟨xs2, n2, _, _, _, hxl2, hf2⟩ := DataW.trod_struct Tryz.underlying45 g3
          have k0 := hf2 0 _ rfl
          have k1 := hf2 1 _ rfl
          have k2 := hf2 2 _ rfl
          have k3 := hf2 3 _ rfl
          simp [cellsIntz] at k0 k1 k2 k3
          match xs2, hxl2 with
          | [v0, v1, v2, v3], _ =>
            obtain ⟨z3, e3, _, _⟩ := DataW.trod_int Tryz.underlying3 k0
            obtain ⟨z4, e4, _, _⟩ := DataW.trod_int Tryz.underlying3 k1
            obtain ⟨z5, e5, _, _⟩ := DataW.trod_int Tryz.underlying3 k2
            obtain ⟨z6, e6, _, _⟩ := DataW.trod_int Tryz.underlying3 k3
            simp at e0 e1 e2 e3 e4 e5 e6
            subst e0 e1 e2 e3 e4 e5 e6
            have h0 := hat 0 (by simp)
            have h1 := hat 1 (by simp)
            have h2 := hat 2 (by simp)
            have h3 := hat 3 (by simp)
            have h4 := hat 4 (by simp)
            have h5 := hat 5 (by simp)
            have h6 := hat 6 (by simp)
            simp only [add_add, List.getElem?_cons_zero, List.getElem?_cons_succ] at h0 h1 h2 h3 h4 h5 h6
            obtain ⟨b, off, rfl⟩ := hpl (by omega)
            rw [addr_plus] at h0 h1 h2 h3 h4 h5 h6
            exact ⟨⟨z0, z1, z2, ⟨z3, z4, z5, z6⟩⟩, b, off, rfl, by simpa using h0, by rw [Nat.add_assoc]; exact h1, by rw [Nat.add_assoc]; exact h2, by rw [Nat.add_assoc]; exact h3, by rw [Nat.add_assoc]; exact h4, by rw [Nat.add_assoc]; exact h5, by rw [Nat.add_assoc]; exact h6⟩
    refine ⟨len, fun i => if hil : i < len then Classical.choose (hel i hil) else ⟨0, 0, 0, ⟨0, 0, 0, 0⟩⟩, some a, cap, rfl, by unfold maxLen at hm; omega, fun j hj => ?_⟩
    obtain ⟨b, off, ha, c⟩ := Classical.choose_spec (hel j hj)
    refine ⟨b, off, by rw [ha], ?_⟩
    simp only [dif_pos hj]
    exact c
set_option maxRecDepth 100000 in
/-- An act that comes in. -/
theorem open_act {r : Reach} {b0 : Nat} {v : Value} {d : DataW H} {P : List MemPlace} (hv : Value.okWide Tryz.prog w r b0 54 v) (h : DataW.Trod enc Tryz.prog w 0 spare held 54 v d P) : ∃ o : Oz, v = .agg #[.int .i64 o.k, .int .i64 o.n, .int .i64 o.h, .int .i64 o.j.l, .int .i64 o.j.c, .int .i64 o.j.a, .int .i64 o.j.d] := by
  obtain ⟨cs, rfl, hsz⟩ := okWide_struct Tryz.underlying54 hv
  obtain ⟨l⟩ := cs
  match l, hsz.trans cellsOz with
  | [c0, c1, c2, c3, c4, c5, c6], _ =>
    obtain ⟨fuel, hf⟩ := h
    obtain ⟨xs, n', _, _, _, hxl, hg⟩ := DataW.trod_struct Tryz.underlying54 hf
    match xs, hxl with
    | [y0, y1, y2, y3], _ =>
      have g0 := hg 0 _ rfl
      have g1 := hg 1 _ rfl
      have g2 := hg 2 _ rfl
      have g3 := hg 3 _ rfl
      simp [cellsIntz, cellsJz, Value.cells] at g0 g1 g2 g3
      obtain ⟨z0, e0, _, _⟩ := DataW.trod_int Tryz.underlying3 g0
      obtain ⟨z1, e1, _, _⟩ := DataW.trod_int Tryz.underlying3 g1
      obtain ⟨z2, e2, _, _⟩ := DataW.trod_int Tryz.underlying3 g2
      obtain ⟨xs2, n2, _, _, _, hxl2, hf2⟩ := DataW.trod_struct Tryz.underlying45 g3
      match xs2, hxl2 with
      | [v0, v1, v2, v3], _ =>
        have k0 := hf2 0 _ rfl
        have k1 := hf2 1 _ rfl
        have k2 := hf2 2 _ rfl
        have k3 := hf2 3 _ rfl
        simp [cellsIntz] at k0 k1 k2 k3
        obtain ⟨z3, e3, _, _⟩ := DataW.trod_int Tryz.underlying3 k0
        obtain ⟨z4, e4, _, _⟩ := DataW.trod_int Tryz.underlying3 k1
        obtain ⟨z5, e5, _, _⟩ := DataW.trod_int Tryz.underlying3 k2
        obtain ⟨z6, e6, _, _⟩ := DataW.trod_int Tryz.underlying3 k3
        simp at e0 e1 e2 e3 e4 e5 e6
        subst e0 e1 e2 e3 e4 e5 e6
        exact ⟨⟨z0, z1, z2, ⟨z3, z4, z5, z6⟩⟩, rfl⟩
end
end Go.Proofs.YtedgchafligndaaGreat
