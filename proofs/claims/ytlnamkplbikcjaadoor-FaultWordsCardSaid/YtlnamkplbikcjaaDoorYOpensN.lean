/- The law's names that come in, opened; no condition. -/
import Derived.Test.YtlnamkplbikcjaaDoorYOpens
namespace Go.Proofs.YtlnamkplbikcjaaDoor
open Go.ChangeShapes Go.WideShapes Go.RowKit Go.ChangeMaps Go.Deep

theorem cellsHanN : Tryd.prog.cellsOf 22 = 1 := by kernel_rfl
theorem cellsStrN : Tryd.prog.cellsOf 9 = 1 := by kernel_rfl
theorem cellsNames : Tryd.prog.cellsOf 42 = 4 := by kernel_rfl
section
variable {H : Type} {enc : TypeId × Value → H} {w : World} {spare : Nat → Bool} {held : Bool}
set_option maxRecDepth 100000 in
theorem open_names {r : Reach} {b0 : Nat} {v : Value} {d : DataW H} {P : List MemPlace} (hv : Value.okWide Tryd.prog w r b0 42 v) (h : DataW.Trod enc Tryd.prog w 0 spare held 42 v d P) :
    ∃ n op q s, v = .agg #[.int .i64 n, .int .i64 op, .int .i64 q, .string s] ∧ I64 n ∧ I64 op ∧ I64 q := by
  obtain ⟨cs, rfl, hsz⟩ := okWide_struct Tryd.underlying42 hv
  obtain ⟨l⟩ := cs
  match l, hsz.trans cellsNames with
  | [c0, c1, c2, c3], _ =>
    obtain ⟨fuel, hf⟩ := h
    obtain ⟨xs, fj, hfj, hx, _, hlen, hg⟩ := DataW.trod_struct Tryd.underlying42 hf
    match xs, hlen with
    | [y0, y1, y2, y3], _ =>
      have h0 := hg 0 _ rfl
      have h1 := hg 1 _ rfl
      have h2 := hg 2 _ rfl
      have h3 := hg 3 _ rfl
      simp [cellsInt, cellsHanN, cellsStrN, Value.cells] at h0 h1 h2 h3
      obtain ⟨k0, u0, _, w0⟩ := DataW.trod_int Tryd.underlying3 h0
      obtain ⟨k1, u1, _, w1⟩ := DataW.trod_int Tryd.underlying3 h1
      obtain ⟨k2, u2, _, w2⟩ := DataW.trod_int Tryd.underlying22 h2
      obtain ⟨s, u3, _, _⟩ := DataW.trod_string Tryd.underlying9 h3
      simp at u0 u1 u2 u3
      subst u0 u1 u2 u3
      exact ⟨k0, k1, k2, s, rfl, bounds_i64 w0, bounds_i64 w1, bounds_i64 w2⟩
end
end Go.Proofs.YtlnamkplbikcjaaDoor
