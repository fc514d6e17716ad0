/- What comes in opened to cells: a slice of acts (structs of three numbers), of claims (three numbers and a bool), an act by value. -/
import Derived.Test.YtilbohjkkdkdiaaGCls
import Derived.OpenShut
import Derived.Deep.Slices
import Derived.ChangeSame
import Derived.ChangeMaps5
import Derived.SizedLaws
import Derived.Lib.SmallJoins
namespace Go.Proofs.Ytilbohjkkdkdiaa
open Go.ChangeShapes Go.WideShapes Go.RowKit Go.ChangeMaps Go.Deep Go.Joins

theorem laidOut : laidOutB Try.prog = true := by kernel_rfl
theorem cellsAct : Try.prog.cellsOf 29 = 3 := by kernel_rfl
theorem cellsClaim : Try.prog.cellsOf 36 = 4 := by kernel_rfl
theorem cellsNum : Try.prog.cellsOf 3 = 1 := by kernel_rfl
theorem cellsB : Try.prog.cellsOf 4 = 1 := by kernel_rfl
theorem plain_addr {w : World} {a : Addr} {v : Value} (h : w.cell? a = some v) : ∃ b off, a = ⟨b, off, none⟩ := by
  obtain ⟨b, off, spot⟩ := a
  have hs : spot = none := World.cell?_spot h
  subst hs
  exact ⟨b, off, rfl⟩
theorem addr_plus (b o j : Nat) : (⟨b, o, none⟩ : Addr).add j = ⟨b, o + j, none⟩ := by unfold Addr.add; split <;> simp_all

/-- A slice that reads as acts. -/
def ActsAt (w : World) (v : Value) (l : List (Int × Int × Int)) : Prop :=
  ∃ p cap, v = .slice p l.length cap ∧ l.length ≤ 9223372036854775807 ∧ ∀ j x0 x1 x2, l[j]? = some (x0, x1, x2) → ∃ b off, p = some ⟨b, off, none⟩ ∧ w.cell? ⟨b, off + j * 3, none⟩ = some (.int .i64 x0) ∧ w.cell? ⟨b, off + j * 3 + 1, none⟩ = some (.int .i64 x1) ∧ w.cell? ⟨b, off + j * 3 + 2, none⟩ = some (.int .i64 x2)
section
variable {H : Type} {enc : TypeId × Value → H} {w : World} {spare : Nat → Bool} {held : Bool}

set_option maxRecDepth 100000 in
/-- A slice of acts. -/
theorem open_acts {fuel : Nat} {v : Value} {x : DataW H × List MemPlace} (h : DataW.trod enc Try.prog w 0 spare held fuel 22 [v] = some x) : ∃ l, ActsAt w v l := by
  rcases open_slice Try.underlying22 h with ⟨hc, _⟩ | ⟨a, len, cap, m, n, D, Pl, hcs, _, hl, hm, hmm, _, hi⟩
  · simp at hc
    subst hc
    exact ⟨[], none, 0, rfl, by simp, fun j x0 x1 x2 hj => by simp at hj⟩
  · simp at hcs
    subst hcs
    have hlm : len ≤ m := by rw [hmm]; split <;> omega
    have hpl : 0 < len → ∃ b off, a = ⟨b, off, none⟩ := fun h0 => by
      obtain ⟨cs', hc, _⟩ := hi 0 (by omega)
      rw [cellsAct] at hc
      obtain ⟨_, hcl, hat⟩ := World.cells?_some hc
      match cs', hcl with
      | [u0, u1, u2], _ =>
        have h0 := hat 0 (by simp)
        simp only [List.getElem?_cons_zero] at h0
        exact plain_addr (by simpa [Addr.add] using h0)
    have hel : ∀ i, i < len → ∃ q : Int × Int × Int, ∃ b off, a = ⟨b, off, none⟩ ∧ w.cell? ⟨b, off + i * 3, none⟩ = some (.int .i64 q.1) ∧ w.cell? ⟨b, off + i * 3 + 1, none⟩ = some (.int .i64 q.2.1) ∧ w.cell? ⟨b, off + i * 3 + 2, none⟩ = some (.int .i64 q.2.2) := fun i hil => by
      obtain ⟨cs', hc, ht⟩ := hi i (by omega)
      rw [cellsAct] at hc
      obtain ⟨_, hcl, hat⟩ := World.cells?_some hc
      obtain ⟨xs, n', _, _, _, hxl, hf⟩ := DataW.trod_struct Try.underlying29 ht
      match cs', hcl with
      | [u0, u1, u2], _ =>
        have g0 := hf 0 _ rfl
        have g1 := hf 1 _ rfl
        have g2 := hf 2 _ rfl
        simp [cellsNum] at g0 g1 g2
        match xs, hxl with
        | [y0, y1, y2], _ =>
          obtain ⟨z0, e0, _, _⟩ := DataW.trod_int Try.underlying3 g0
          obtain ⟨z1, e1, _, _⟩ := DataW.trod_int Try.underlying3 g1
          obtain ⟨z2, e2, _, _⟩ := DataW.trod_int Try.underlying3 g2
          simp at e0 e1 e2
          subst e0 e1 e2
          have h0 := hat 0 (by simp)
          have h1 := hat 1 (by simp)
          have h2 := hat 2 (by simp)
          simp only [add_add, List.getElem?_cons_zero, List.getElem?_cons_succ] at h0 h1 h2
          obtain ⟨b, off, rfl⟩ := hpl (by omega)
          rw [addr_plus] at h0 h1 h2
          exact ⟨(z0, z1, z2), b, off, rfl, by simpa using h0, by rw [Nat.add_assoc]; exact h1, by rw [Nat.add_assoc]; exact h2⟩
    refine ⟨(List.range len).map fun i => if hil : i < len then Classical.choose (hel i hil) else (0, 0, 0), some a, cap, by simp, by simp; unfold maxLen at hm; omega, fun j x0 x1 x2 hj => ?_⟩
    have hjl : j < len := by
      have := (List.getElem?_eq_some_iff.1 hj).1
      simpa using this
    rw [List.getElem?_map, List.getElem?_range hjl] at hj
    simp only [Option.map_some, dif_pos hjl, Option.some.injEq] at hj
    obtain ⟨b, off, ha, c0, c1, c2⟩ := Classical.choose_spec (hel j hjl)
    rw [hj] at c0 c1 c2
    exact ⟨b, off, by rw [ha], c0, c1, c2⟩
set_option maxRecDepth 100000 in
/-- A slice of claims. -/
theorem open_claims {fuel : Nat} {v : Value} {x : DataW H × List MemPlace} (h : DataW.trod enc Try.prog w 0 spare held fuel 25 [v] = some x) (hz : ∀ p n c, v = .slice p n c → n ≤ 4398046511103) : ∃ L, Rd w v L := by
  rcases open_slice Try.underlying25 h with ⟨hc, _⟩ | ⟨a, len, cap, m, n, D, Pl, hcs, _, hl, hm, hmm, _, hi⟩
  · simp at hc
    subst hc
    exact ⟨[], Rd.nil w⟩
  · simp at hcs
    subst hcs
    have hlm : len ≤ m := by rw [hmm]; split <;> omega
    have hpl : 0 < len → ∃ b off, a = ⟨b, off, none⟩ := fun h0 => by
      obtain ⟨cs', hc, _⟩ := hi 0 (by omega)
      rw [cellsClaim] at hc
      obtain ⟨_, hcl, hat⟩ := World.cells?_some hc
      match cs', hcl with
      | [u0, u1, u2, u3], _ =>
        have h0 := hat 0 (by simp)
        simp only [List.getElem?_cons_zero] at h0
        exact plain_addr (by simpa [Addr.add] using h0)
    have hel : ∀ i, i < len → ∃ q : Cl, ∃ b off, a = ⟨b, off, none⟩ ∧ w.cell? ⟨b, off + i * 4, none⟩ = some (.int .i64 q.s) ∧ w.cell? ⟨b, off + i * 4 + 1, none⟩ = some (.int .i64 q.n) ∧ w.cell? ⟨b, off + i * 4 + 2, none⟩ = some (.int .i64 q.x) ∧ w.cell? ⟨b, off + i * 4 + 3, none⟩ = some (.bool q.d) := fun i hil => by
      obtain ⟨cs', hc, ht⟩ := hi i (by omega)
      rw [cellsClaim] at hc
      obtain ⟨_, hcl, hat⟩ := World.cells?_some hc
      obtain ⟨xs, n', _, _, _, hxl, hf⟩ := DataW.trod_struct Try.underlying36 ht
      match cs', hcl with
      | [u0, u1, u2, u3], _ =>
        have g0 := hf 0 _ rfl
        have g1 := hf 1 _ rfl
        have g2 := hf 2 _ rfl
        have g3 := hf 3 _ rfl
        simp [cellsNum, cellsB] at g0 g1 g2 g3
        match xs, hxl with
        | [y0, y1, y2, y3], _ =>
          obtain ⟨z0, e0, _, _⟩ := DataW.trod_int Try.underlying3 g0
          obtain ⟨z1, e1, _, _⟩ := DataW.trod_int Try.underlying3 g1
          obtain ⟨z2, e2, _, _⟩ := DataW.trod_int Try.underlying3 g2
          obtain ⟨z3, e3, _⟩ := DataW.trod_bool Try.underlying4 g3
          simp at e0 e1 e2 e3
          subst e0 e1 e2 e3
          have h0 := hat 0 (by simp)
          have h1 := hat 1 (by simp)
          have h2 := hat 2 (by simp)
          have h3 := hat 3 (by simp)
          simp only [add_add, List.getElem?_cons_zero, List.getElem?_cons_succ] at h0 h1 h2 h3
          obtain ⟨b, off, rfl⟩ := hpl (by omega)
          rw [addr_plus] at h0 h1 h2 h3
          exact ⟨⟨z0, z1, z2, z3⟩, b, off, rfl, by simpa using h0, by rw [Nat.add_assoc]; exact h1, by rw [Nat.add_assoc]; exact h2, by rw [Nat.add_assoc]; exact h3⟩
    refine ⟨(List.range len).map fun i => if hil : i < len then Classical.choose (hel i hil) else zc, some a, cap, by simp, by simpa using hz _ _ _ rfl, fun j hj => ?_⟩
    have hjl : j < len := by simpa using hj
    obtain ⟨b, off, ha, c0, c1, c2, c3⟩ := Classical.choose_spec (hel j hjl)
    simp only [List.getElem_map, List.getElem_range, dif_pos hjl]
    exact ⟨b, off, by rw [ha], c0, c1, c2, c3⟩
end
/-- An act by value. -/
theorem readsAct {H : Type} {enc : TypeId × Value → H} (x y z : Int) (W' : World) (sp : Nat → Bool) (wx : (Lit.int .i64 x).wf = true) (wy : (Lit.int .i64 y).wf = true) (wz : (Lit.int .i64 z).wf = true) :
    DataW.Trod enc Try.prog W' 0 sp true 29 (.agg #[.int .i64 x, .int .i64 y, .int .i64 z]) (.agg [.lit (.int .i64 x), .lit (.int .i64 y), .lit (.int .i64 z)]) [] :=
  shut_agg3 (y0 := (.lit (.int .i64 x), [])) (y1 := (.lit (.int .i64 y), [])) (y2 := (.lit (.int .i64 z), [])) Try.underlying29 (by kernel_rfl) cellsAct ⟨1, by simp [DataW.trod, Try.underlying3, wx]⟩ ⟨1, by simp [DataW.trod, Try.underlying3, wy]⟩ ⟨1, by simp [DataW.trod, Try.underlying3, wz]⟩
end Go.Proofs.Ytilbohjkkdkdiaa
