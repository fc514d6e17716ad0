/- An error of the laws that comes in, opened to a tree; no condition. -/
import Derived.Test.YtlnamkplbikcjaaDoorYOpens
import Derived.Test.YtlnamkplbikcjaaDoorYData
namespace Go.Proofs.YtlnamkplbikcjaaDoor
open Go.ChangeShapes Go.WideShapes Go.RowKit Go.ChangeMaps Go.Deep Ft

theorem cellsHan : Tryd.prog.cellsOf 22 = 1 := by kernel_rfl
theorem cellsStrE : Tryd.prog.cellsOf 9 = 1 := by kernel_rfl
theorem cellsErrs : Tryd.prog.cellsOf 23 = 1 := by kernel_rfl
theorem cellsErr : Tryd.prog.cellsOf 25 = 6 := by kernel_rfl
section
variable {H : Type} {enc : TypeId × Value → H} {w : World} {spare : Nat → Bool} {held : Bool}
set_option maxRecDepth 100000 in
theorem open_err_cells : ∀ (fuel : Nat) (cs : List Value) (x : DataW H × List MemPlace), cs.length = 6 → DataW.trod enc Tryd.prog w 0 spare held fuel 25 cs = some x →
    ∃ d : Dt, d.ok ∧ DV w d (.agg cs.toArray) := by
  intro fuel
  induction fuel using Nat.strongRecOn with
  | _ fuel ih =>
  intro cs x hcs h
  obtain ⟨xs, fj, hfj, hx, _, hlen, hg⟩ := DataW.trod_struct Tryd.underlying25 h
  match cs, hcs with
  | [c0, c1, c2, c3, c4, c5], _ =>
    match xs, hlen with
    | [y0, y1, y2, y3, y4, y5], _ =>
      have h0 := hg 0 _ rfl
      have h1 := hg 1 _ rfl
      have h2 := hg 2 _ rfl
      have h3 := hg 3 _ rfl
      have h4 := hg 4 _ rfl
      have h5 := hg 5 _ rfl
      simp [cellsInt, cellsHan, cellsStrE, cellsErrs] at h0 h1 h2 h3 h4 h5
      obtain ⟨k0, u0, _, w0⟩ := DataW.trod_int Tryd.underlying3 h0
      obtain ⟨k1, u1, _, w1⟩ := DataW.trod_int Tryd.underlying3 h1
      obtain ⟨k2, u2, _, w2⟩ := DataW.trod_int Tryd.underlying22 h2
      obtain ⟨k3, u3, _, w3⟩ := DataW.trod_int Tryd.underlying3 h3
      obtain ⟨s, u4, _, _⟩ := DataW.trod_string Tryd.underlying9 h4
      simp at u0 u1 u2 u3 u4
      subst u0 u1 u2 u3 u4
      rcases DataW.trod_slice Tryd.underlying23 h5 with ⟨hc, _⟩ | ⟨a, len, cap, elems, rest, n2, hn2, hcs, _, _, hlc, hcm, hel, hi, _⟩
      · simp at hc
        subst hc
        exact ⟨.mk k0 k1 k2 k3 s 0 .nil .nil, ⟨bounds_i64 w0, bounds_i64 w1, bounds_i64 w2, bounds_i64 w3, trivial, trivial⟩, none, 0, rfl, by omega, fun h => absurd h (by omega), fun h => absurd h (by omega)⟩
      · simp at hcs
        subst hcs
        have hlt : n2 < fuel := by omega
        have hpl : 0 < len → ∃ b off, a = ⟨b, off, none⟩ := fun h0 => by
          have hb := hi 0 h0
          rw [List.getElem?_eq_getElem (by omega)] at hb
          obtain ⟨cs', hc, _⟩ := Option.bind_eq_some_iff.1 hb
          rw [cellsErr] at hc
          obtain ⟨_, hcl, hat⟩ := World.cells?_some hc
          have h0 := hat 0 (by omega)
          obtain ⟨u, hu⟩ : ∃ u, cs'[0]? = some u := ⟨_, List.getElem?_eq_getElem (by omega)⟩
          rw [hu] at h0
          exact plain_addr (by simpa [Addr.add] using h0)
        have one : ∀ i, i < len → ∃ (d : Dt) (b off : Nat) (x : Value), d.ok ∧ a = ⟨b, off, none⟩ ∧ EltAt w b (off + i * 6) x ∧ DV w d x := fun i hil => by
          have hb := hi i hil
          rw [List.getElem?_eq_getElem (by omega)] at hb
          obtain ⟨cs', hc, ht⟩ := Option.bind_eq_some_iff.1 hb
          rw [cellsErr] at hc
          obtain ⟨_, hcl, hat⟩ := World.cells?_some hc
          obtain ⟨d, hd, hv⟩ := ih n2 hlt cs' _ hcl ht
          match cs', hcl with
          | [e0, e1, e2, e3, e4, e5], _ =>
            have g0 := hat 0 (by omega)
            have g1 := hat 1 (by omega)
            have g2 := hat 2 (by omega)
            have g3 := hat 3 (by omega)
            have g4 := hat 4 (by omega)
            have g5 := hat 5 (by omega)
            simp only [add_add, List.getElem?_cons_zero, List.getElem?_cons_succ] at g0 g1 g2 g3 g4 g5
            obtain ⟨ab, ao, rfl⟩ := hpl (by omega)
            rw [addr_plus] at g0 g1 g2 g3 g4 g5
            refine ⟨d, ab, ao, _, hd, rfl, ⟨e0, e1, e2, e3, e4, e5, rfl, by simpa using g0, ?_, ?_, ?_, ?_, ?_⟩, hv⟩
            · rw [Nat.add_assoc]; exact g1
            · rw [Nat.add_assoc]; exact g2
            · rw [Nat.add_assoc]; exact g3
            · rw [Nat.add_assoc]; exact g4
            · rw [Nat.add_assoc]; exact g5
        have hml : len ≤ 9223372036854775807 := by unfold maxLen at hcm; omega
        have okk : ∀ a b : Dt, a.ok → b.ok → (Dt.mk k0 k1 k2 k3 s len a b).ok := fun a b ha hb => ⟨bounds_i64 w0, bounds_i64 w1, bounds_i64 w2, bounds_i64 w3, ha, hb⟩
        by_cases hl0 : 0 < len
        · obtain ⟨d0, b0, off0, x0, ok0, ea0, he0, hv0⟩ := one 0 hl0
          rw [Nat.zero_mul, Nat.add_zero] at he0
          by_cases hl1 : 1 < len
          · obtain ⟨d1, b1, off1, x1, ok1, ea1, he1, hv1⟩ := one 1 hl1
            rw [Nat.one_mul] at he1
            exact ⟨.mk k0 k1 k2 k3 s len d0 d1, okk _ _ ok0 ok1, some a, cap, rfl, hml, fun _ => ⟨b0, off0, x0, by rw [ea0], he0, hv0⟩, fun _ => ⟨b1, off1, x1, by rw [ea1], he1, hv1⟩⟩
          · exact ⟨.mk k0 k1 k2 k3 s len d0 .nil, okk _ _ ok0 trivial, some a, cap, rfl, hml, fun _ => ⟨b0, off0, x0, by rw [ea0], he0, hv0⟩, fun h => absurd h hl1⟩
        · exact ⟨.mk k0 k1 k2 k3 s len .nil .nil, okk _ _ trivial trivial, some a, cap, rfl, hml, fun h => absurd h hl0, fun h => absurd h (by omega)⟩
set_option maxRecDepth 100000 in
/-- An error that comes in. -/
theorem open_err {r : Reach} {b0 : Nat} {v : Value} {fuel : Nat} {x : DataW H × List MemPlace} (hv : Value.okWide Tryd.prog w r b0 25 v) (h : DataW.trod enc Tryd.prog w 0 spare held fuel 25 v.cells.toList = some x) : ∃ d : Dt, d.ok ∧ DV w d v := by
  obtain ⟨cs, rfl, hsz⟩ := okWide_struct Tryd.underlying25 hv
  obtain ⟨l⟩ := cs
  obtain ⟨d, hd, hv⟩ := open_err_cells fuel l x (hsz.trans cellsErr) h
  exact ⟨d, hd, hv⟩
end
end Go.Proofs.YtlnamkplbikcjaaDoor
