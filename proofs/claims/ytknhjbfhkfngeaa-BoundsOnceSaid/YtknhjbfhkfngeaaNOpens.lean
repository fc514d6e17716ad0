/- What comes in opened to cells: a slice of acts (structs of three numbers); no condition but those that each row names. -/
import Derived.Test.YtknhjbfhkfngeaaNMath
import Derived.OpenShut
import Derived.Deep.Slices
import Derived.ChangeSame
import Derived.ChangeMaps5
import Derived.SizedLaws
import Derived.Lib.SmallJoins
namespace Go.Proofs.Ytknhjbfhkfngeaa
open Go.ChangeShapes Go.WideShapes Go.RowKit Go.ChangeMaps Go.Deep Hp

/-- A slice of acts that reads as a list. -/
def OpsAt (w : World) (v : Value) (l : List (Int × Int × Int)) : Prop :=
  ∃ p cap, v = .slice p l.length cap ∧ l.length ≤ 9223372036854775807 ∧ ∀ j k h x, l[j]? = some (k, h, x) → ∃ b off, p = some ⟨b, off, none⟩ ∧ w.cell? ⟨b, off + j * 3, none⟩ = some (.int .i64 k) ∧ w.cell? ⟨b, off + j * 3 + 1, none⟩ = some (.int .i64 h) ∧ w.cell? ⟨b, off + j * 3 + 2, none⟩ = some (.int .i64 x) ∧ In64 h
theorem OpsAt.below {w w' : World} {v : Value} {l : List (Int × Int × Int)} (h : OpsAt w v l) (hb : Below w.heap.size w w') : OpsAt w' v l := by
  obtain ⟨p, cap, e, hl, hc⟩ := h
  refine ⟨p, cap, e, hl, fun j k h x hj => ?_⟩
  obtain ⟨b, off, e2, c0, c1, c2, c3⟩ := hc j k h x hj
  have hb0 := cell_lt c0
  exact ⟨b, off, e2, (hb.cell (p := ⟨b, off + j * 3, none⟩) hb0).trans c0, (hb.cell (p := ⟨b, off + j * 3 + 1, none⟩) hb0).trans c1, (hb.cell (p := ⟨b, off + j * 3 + 2, none⟩) hb0).trans c2, c3⟩

theorem laidOut : laidOutB Try.prog = true := by kernel_rfl
theorem cellsOp : Try.prog.cellsOf 28 = 3 := by kernel_rfl
theorem cellsNum : Try.prog.cellsOf 3 = 1 := by kernel_rfl
theorem plain_addr {w : World} {a : Addr} {v : Value} (h : w.cell? a = some v) : ∃ b off, a = ⟨b, off, none⟩ := by
  obtain ⟨b, off, spot⟩ := a
  have hs : spot = none := World.cell?_spot h
  subst hs
  exact ⟨b, off, rfl⟩


section
variable {H : Type} {enc : TypeId × Value → H} {w : World} {spare : Nat → Bool} {held : Bool}

set_option maxRecDepth 100000 in
/-- A slice of acts. -/
theorem open_ops {fuel : Nat} {v : Value} {x : DataW H × List MemPlace} (h : DataW.trod enc Try.prog w 0 spare held fuel 22 [v] = some x) : ∃ l, OpsAt w v l := by
  rcases open_slice Try.underlying22 h with ⟨hc, _⟩ | ⟨a, len, cap, m, n, D, Pl, hcs, _, hl, hm, hmm, _, hi⟩
  · simp at hc
    subst hc
    exact ⟨[], none, 0, rfl, by simp, fun j k h x hj => by simp at hj⟩
  · simp at hcs
    subst hcs
    have hlm : len ≤ m := by rw [hmm]; split <;> omega
    have hpl : 0 < len → ∃ b off, a = ⟨b, off, none⟩ := fun h0 => by
      obtain ⟨cs', hc, _⟩ := hi 0 (by omega)
      rw [cellsOp] at hc
      obtain ⟨_, hcl, hat⟩ := World.cells?_some hc
      match cs', hcl with
      | [u0, u1, u2], _ =>
        have h0 := hat 0 (by simp)
        simp only [List.getElem?_cons_zero] at h0
        exact plain_addr (by simpa [Addr.add] using h0)
    have hel : ∀ i, i < len → ∃ q : Int × Int × Int, ∃ b off, a = ⟨b, off, none⟩ ∧ w.cell? ⟨b, off + i * 3, none⟩ = some (.int .i64 q.1) ∧ w.cell? ⟨b, off + i * 3 + 1, none⟩ = some (.int .i64 q.2.1) ∧ w.cell? ⟨b, off + i * 3 + 2, none⟩ = some (.int .i64 q.2.2) ∧ In64 q.2.1 := fun i hil => by
      obtain ⟨cs', hc, ht⟩ := hi i (by omega)
      rw [cellsOp] at hc
      obtain ⟨_, hcl, hat⟩ := World.cells?_some hc
      obtain ⟨xs, n', _, _, _, hxl, hf⟩ := DataW.trod_struct Try.underlying28 ht
      match cs', hcl with
      | [u0, u1, u2], _ =>
        have g0 := hf 0 _ rfl
        have g1 := hf 1 _ rfl
        have g2 := hf 2 _ rfl
        simp [cellsNum] at g0 g1 g2
        match xs, hxl with
        | [y0, y1, y2], _ =>
          obtain ⟨z0, e0, _, _⟩ := DataW.trod_int Try.underlying3 g0
          obtain ⟨z1, e1, _, w1⟩ := DataW.trod_int Try.underlying3 g1
          obtain ⟨z2, e2, _, _⟩ := DataW.trod_int Try.underlying3 g2
          simp at e0 e1 e2
          subst e0 e1 e2
          have h0 := hat 0 (by simp)
          have h1 := hat 1 (by simp)
          have h2 := hat 2 (by simp)
          simp only [add_add, List.getElem?_cons_zero, List.getElem?_cons_succ] at h0 h1 h2
          obtain ⟨b, off, rfl⟩ := hpl (by omega)
          rw [addr_plus] at h0 h1 h2
          exact ⟨(z0, z1, z2), b, off, rfl, by simpa using h0, by rw [Nat.add_assoc]; exact h1, by rw [Nat.add_assoc]; exact h2, In64.of w1⟩
    refine ⟨(List.range len).map fun i => if hil : i < len then Classical.choose (hel i hil) else (0, 0, 0), some a, cap, by simp, by simp; unfold maxLen at hm; omega, fun j k h x hj => ?_⟩
    have hjl : j < len := by
      have := (List.getElem?_eq_some_iff.1 hj).1
      simpa using this
    rw [List.getElem?_map, List.getElem?_range hjl] at hj
    simp only [Option.map_some, dif_pos hjl, Option.some.injEq] at hj
    obtain ⟨b, off, ha, c0, c1, c2, c3⟩ := Classical.choose_spec (hel j hjl)
    rw [hj] at c0 c1 c2 c3
    exact ⟨b, off, by rw [ha], c0, c1, c2, c3⟩
end

end Go.Proofs.Ytknhjbfhkfngeaa
