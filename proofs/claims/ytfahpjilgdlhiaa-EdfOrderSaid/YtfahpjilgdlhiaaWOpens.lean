/- What comes in opened to cells: slices of items, of children, of numbers; no condition. -/
import Derived.Test.YtfahpjilgdlhiaaWIts
import Derived.OpenShut
import Derived.Deep.Slices
import Derived.ChangeSame
import Derived.ChangeMaps5
import Derived.SizedLaws
import Derived.Lib.SmallJoins
namespace Go.Proofs.Ytfahpjilgdlhiaa
open Go.ChangeShapes Go.WideShapes Go.RowKit Go.ChangeMaps Go.Deep Edf

theorem laidOut : laidOutB Try.prog = true := by kernel_rfl
theorem cellsNum : Try.prog.cellsOf 3 = 1 := by kernel_rfl
theorem plain_addr {w : World} {a : Addr} {v : Value} (h : w.cell? a = some v) : ∃ b off, a = ⟨b, off, none⟩ := by
  obtain ⟨b, off, spot⟩ := a
  have hs : spot = none := World.cell?_spot h
  subst hs
  exact ⟨b, off, rfl⟩
theorem cellsIt : Try.prog.cellsOf 63 = 3 := by kernel_rfl
theorem cellsCh : Try.prog.cellsOf 26 = 3 := by kernel_rfl
section
variable {H : Type} {enc : TypeId × Value → H} {w : World} {spare : Nat → Bool} {held : Bool}

set_option maxRecDepth 100000 in
/-- A slice of such. -/
theorem open_items {fuel : Nat} {v : Value} {x : DataW H × List MemPlace} (h : DataW.trod enc Try.prog w 0 spare held fuel 35 [v] = some x) : ∃ n f, Tris w v n f ∧ (∃ p cap, v = .slice p n cap) := by
  rcases open_slice Try.underlying35 h with ⟨hc, _⟩ | ⟨a, len, cap, m, n, D, Pl, hcs, _, hl, hm, hmm, _, hi⟩
  · simp at hc
    subst hc
    exact ⟨0, fun _ => ⟨0, 0, 0⟩, ⟨none, 0, rfl, by simp, fun j hj => by omega⟩, none, 0, rfl⟩
  · simp at hcs
    subst hcs
    have hlm : len ≤ m := by rw [hmm]; split <;> omega
    have hpl : 0 < len → ∃ b off, a = ⟨b, off, none⟩ := fun h0 => by
      obtain ⟨cs', hc, _⟩ := hi 0 (by omega)
      rw [cellsIt] at hc
      obtain ⟨_, hcl, hat⟩ := World.cells?_some hc
      match cs', hcl with
      | [u0, u1, u2], _ =>
        have h0 := hat 0 (by simp)
        simp only [List.getElem?_cons_zero] at h0
        exact plain_addr (by simpa [Addr.add] using h0)
    have hel : ∀ i, i < len → ∃ q : Int × Int × Int, ∃ b off, a = ⟨b, off, none⟩ ∧ w.cell? ⟨b, off + i * 3, none⟩ = some (.int .i64 q.1) ∧ w.cell? ⟨b, off + i * 3 + 1, none⟩ = some (.int .i64 q.2.1) ∧ w.cell? ⟨b, off + i * 3 + 2, none⟩ = some (.int .i64 q.2.2) := fun i hil => by
      obtain ⟨cs', hc, ht⟩ := hi i (by omega)
      rw [cellsIt] at hc
      obtain ⟨_, hcl, hat⟩ := World.cells?_some hc
      obtain ⟨xs, n', _, _, _, hxl, hf⟩ := DataW.trod_struct Try.underlying63 ht
      match cs', hcl with
      | [u0, u1, u2], _ =>
        have g0 := hf 0 _ rfl
        have g1 := hf 1 _ rfl
        have g2 := hf 2 _ rfl
        simp [cellsNum] at g0 g1 g2
        match xs, hxl with
        | [y0, y1, y2], _ =>
          obtain ⟨z0, e0, _, _⟩ := DataW.trod_int Try.underlying3 g0
          obtain ⟨z1, e1, _, _⟩ := DataW.trod_int Try.underlying3 g1
          obtain ⟨z2, e2, _, _⟩ := DataW.trod_int Try.underlying3 g2
          simp at e0 e1 e2
          subst e0 e1 e2
          have h0 := hat 0 (by simp)
          have h1 := hat 1 (by simp)
          have h2 := hat 2 (by simp)
          simp only [add_add, List.getElem?_cons_zero, List.getElem?_cons_succ] at h0 h1 h2
          obtain ⟨b, off, rfl⟩ := hpl (by omega)
          rw [addr_plus] at h0 h1 h2
          exact ⟨(z0, z1, z2), b, off, rfl, by simpa using h0, by rw [Nat.add_assoc]; exact h1, by rw [Nat.add_assoc]; exact h2⟩
    refine ⟨len, fun i => if hil : i < len then ⟨(Classical.choose (hel i hil)).1, (Classical.choose (hel i hil)).2.1, (Classical.choose (hel i hil)).2.2⟩ else ⟨0, 0, 0⟩, ⟨some a, cap, rfl, by unfold maxLen at hm; omega, fun j hjl => ?_⟩, some a, cap, rfl⟩
    obtain ⟨b, off, ha, c0, c1, c2⟩ := Classical.choose_spec (hel j hjl)
    simp only [dif_pos hjl]
    exact ⟨b, off, by rw [ha], c0, c1, c2⟩
set_option maxRecDepth 100000 in
/-- A slice of such. -/
theorem open_children {fuel : Nat} {v : Value} {x : DataW H × List MemPlace} (h : DataW.trod enc Try.prog w 0 spare held fuel 22 [v] = some x) : ∃ n f, Tris w v n f ∧ (∃ p cap, v = .slice p n cap) := by
  rcases open_slice Try.underlying22 h with ⟨hc, _⟩ | ⟨a, len, cap, m, n, D, Pl, hcs, _, hl, hm, hmm, _, hi⟩
  · simp at hc
    subst hc
    exact ⟨0, fun _ => ⟨0, 0, 0⟩, ⟨none, 0, rfl, by simp, fun j hj => by omega⟩, none, 0, rfl⟩
  · simp at hcs
    subst hcs
    have hlm : len ≤ m := by rw [hmm]; split <;> omega
    have hpl : 0 < len → ∃ b off, a = ⟨b, off, none⟩ := fun h0 => by
      obtain ⟨cs', hc, _⟩ := hi 0 (by omega)
      rw [cellsCh] at hc
      obtain ⟨_, hcl, hat⟩ := World.cells?_some hc
      match cs', hcl with
      | [u0, u1, u2], _ =>
        have h0 := hat 0 (by simp)
        simp only [List.getElem?_cons_zero] at h0
        exact plain_addr (by simpa [Addr.add] using h0)
    have hel : ∀ i, i < len → ∃ q : Int × Int × Int, ∃ b off, a = ⟨b, off, none⟩ ∧ w.cell? ⟨b, off + i * 3, none⟩ = some (.int .i64 q.1) ∧ w.cell? ⟨b, off + i * 3 + 1, none⟩ = some (.int .i64 q.2.1) ∧ w.cell? ⟨b, off + i * 3 + 2, none⟩ = some (.int .i64 q.2.2) := fun i hil => by
      obtain ⟨cs', hc, ht⟩ := hi i (by omega)
      rw [cellsCh] at hc
      obtain ⟨_, hcl, hat⟩ := World.cells?_some hc
      obtain ⟨xs, n', _, _, _, hxl, hf⟩ := DataW.trod_struct Try.underlying26 ht
      match cs', hcl with
      | [u0, u1, u2], _ =>
        have g0 := hf 0 _ rfl
        have g1 := hf 1 _ rfl
        have g2 := hf 2 _ rfl
        simp [cellsNum] at g0 g1 g2
        match xs, hxl with
        | [y0, y1, y2], _ =>
          obtain ⟨z0, e0, _, _⟩ := DataW.trod_int Try.underlying3 g0
          obtain ⟨z1, e1, _, _⟩ := DataW.trod_int Try.underlying3 g1
          obtain ⟨z2, e2, _, _⟩ := DataW.trod_int Try.underlying3 g2
          simp at e0 e1 e2
          subst e0 e1 e2
          have h0 := hat 0 (by simp)
          have h1 := hat 1 (by simp)
          have h2 := hat 2 (by simp)
          simp only [add_add, List.getElem?_cons_zero, List.getElem?_cons_succ] at h0 h1 h2
          obtain ⟨b, off, rfl⟩ := hpl (by omega)
          rw [addr_plus] at h0 h1 h2
          exact ⟨(z0, z1, z2), b, off, rfl, by simpa using h0, by rw [Nat.add_assoc]; exact h1, by rw [Nat.add_assoc]; exact h2⟩
    refine ⟨len, fun i => if hil : i < len then ⟨(Classical.choose (hel i hil)).1, (Classical.choose (hel i hil)).2.1, (Classical.choose (hel i hil)).2.2⟩ else ⟨0, 0, 0⟩, ⟨some a, cap, rfl, by unfold maxLen at hm; omega, fun j hjl => ?_⟩, some a, cap, rfl⟩
    obtain ⟨b, off, ha, c0, c1, c2⟩ := Classical.choose_spec (hel j hjl)
    simp only [dif_pos hjl]
    exact ⟨b, off, by rw [ha], c0, c1, c2⟩
set_option maxRecDepth 100000 in
theorem open_nums {fuel : Nat} {v : Value} {x : DataW H × List MemPlace} (h : DataW.trod enc Try.prog w 0 spare held fuel 30 [v] = some x) : ∃ n f, Nums w v n f ∧ (∃ p cap, v = .slice p n cap) := by
  rcases open_slice Try.underlying30 h with ⟨hc, _⟩ | ⟨a, len, cap, m, n, D, Pl, hcs, _, hl, hm, hmm, _, hi⟩
  · simp at hc
    subst hc
    exact ⟨0, fun _ => 0, ⟨none, 0, rfl, by simp, fun j hj => by omega⟩, none, 0, rfl⟩
  · simp at hcs
    subst hcs
    have hlm : len ≤ m := by rw [hmm]; split <;> omega
    have hel : ∀ i, i < len → ∃ q : Int, w.cell? (a.add i) = some (.int .i64 q) := fun i hil => by
      obtain ⟨cs', hc, ht⟩ := hi i (by omega)
      rw [cellsNum] at hc
      obtain ⟨_, hcl, hat⟩ := World.cells?_some hc
      match cs', hcl with
      | [u0], _ =>
        obtain ⟨z0, e0, _, _⟩ := DataW.trod_int Try.underlying3 ht
        simp at e0
        subst e0
        have h0 := hat 0 (by simp)
        simp only [List.getElem?_cons_zero] at h0
        exact ⟨z0, by simpa [Addr.add] using h0⟩
    have hpl : ∀ i, i < len → ∃ b off, a = ⟨b, off, none⟩ := fun i hil => by
      obtain ⟨q, hq⟩ := hel 0 (by omega)
      exact plain_addr (by simpa [Addr.add] using hq)
    refine ⟨len, fun i => if hil : i < len then Classical.choose (hel i hil) else 0, ⟨some a, cap, rfl, by unfold maxLen at hm; omega, fun j hjl => ?_⟩, some a, cap, rfl⟩
    obtain ⟨b, off, ha⟩ := hpl j hjl
    have hc := Classical.choose_spec (hel j hjl)
    subst ha
    simp only [dif_pos hjl]
    exact ⟨b, off, rfl, by rw [← addr_plus]; exact hc⟩
end
end Go.Proofs.Ytfahpjilgdlhiaa
