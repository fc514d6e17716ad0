/- A budget that comes in, opened to its eight cells, and read again; no condition. -/
import Derived.Test.YtbkbmpnhjmcenaaDoorBFx
import Derived.Lib.SmallJoins
import Derived.ChangeSame
namespace Go.Proofs.YtbkbmpnhjmcenaaDoor
open Go.ChangeShapes Go.WideShapes Go.RowKit Go.Joins

theorem cellsInt : Tryd.prog.cellsOf 3 = 1 := by kernel_rfl
theorem cellsBool : Tryd.prog.cellsOf 4 = 1 := by kernel_rfl
theorem cellsRes : Tryd.prog.cellsOf 23 = 2 := by kernel_rfl
theorem cellsBudget : Tryd.prog.cellsOf 30 = 8 := by kernel_rfl

section
variable {H : Type} {enc : TypeId × Value → H} {w : World} {base : Nat} {spare : Nat → Bool} {held : Bool}
theorem open_res {fuel : Nat} {c0 c1 : Value} {x : DataW H × List MemPlace} (h : DataW.trod enc Tryd.prog w base spare held fuel 23 [c0, c1] = some x) :
    ∃ a b : Int, c0 = .int .i64 a ∧ c1 = .int .i64 b ∧ x = (.agg [.lit (.int .i64 a), .lit (.int .i64 b)], []) ∧ (Lit.int .i64 a).wf = true ∧ (Lit.int .i64 b).wf = true := by
  obtain ⟨xs, n, rfl, rfl, _, hlen, hg⟩ := DataW.trod_struct Tryd.underlying23 h
  match xs, hlen with
  | [y0, y1], _ =>
    have h0 := hg 0 _ rfl
    have h1 := hg 1 _ rfl
    simp [cellsInt] at h0 h1
    obtain ⟨a, u0, rfl, wa⟩ := DataW.trod_int Tryd.underlying3 h0
    obtain ⟨b, u1, rfl, wb⟩ := DataW.trod_int Tryd.underlying3 h1
    simp at u0 u1
    exact ⟨a, b, u0, u1, by simp, wa, wb⟩

theorem open_budget {r : Reach} {b0 : Nat} {v : Value} {d : DataW H} {p : List MemPlace} (hv : Value.okWide Tryd.prog w r b0 30 v) (h : DataW.Trod enc Tryd.prog w base spare held 30 v d p) :
    ∃ (x0 x1 x2 x3 : Int) (x4 : Bool) (x5 x6 x7 : Int), v = .agg #[.int .i64 x0, .int .i64 x1, .int .i64 x2, .int .i64 x3, .bool x4, .int .i64 x5, .int .i64 x6, .int .i64 x7] ∧
      d = .agg [.agg [.lit (.int .i64 x0), .lit (.int .i64 x1)], .agg [.lit (.int .i64 x2), .lit (.int .i64 x3)], .lit (.bool x4), .lit (.int .i64 x5), .lit (.int .i64 x6), .lit (.int .i64 x7)] ∧ p = [] ∧
      (Lit.int .i64 x0).wf = true ∧ (Lit.int .i64 x1).wf = true ∧ (Lit.int .i64 x2).wf = true ∧ (Lit.int .i64 x3).wf = true ∧ (Lit.int .i64 x5).wf = true ∧ (Lit.int .i64 x6).wf = true ∧ (Lit.int .i64 x7).wf = true := by
  obtain ⟨cs, rfl, hsz⟩ := okWide_struct Tryd.underlying30 hv
  obtain ⟨l⟩ := cs
  match l, hsz.trans cellsBudget with
  | [c0, c1, c2, c3, c4, c5, c6, c7], _ =>
    obtain ⟨fuel, hf⟩ := h
    obtain ⟨xs, n, _, hx, _, hlen, hg⟩ := DataW.trod_struct Tryd.underlying30 hf
    match xs, hlen with
    | [y0, y1, y2, y3, y4, y5], _ =>
      have h0 := hg 0 _ rfl
      have h1 := hg 1 _ rfl
      have h2 := hg 2 _ rfl
      have h3 := hg 3 _ rfl
      have h4 := hg 4 _ rfl
      have h5 := hg 5 _ rfl
      simp [cellsInt, cellsBool, cellsRes, Value.cells] at h0 h1 h2 h3 h4 h5
      obtain ⟨x0, x1, rfl, rfl, rfl, w0, w1⟩ := open_res h0
      obtain ⟨x2, x3, rfl, rfl, rfl, w2, w3⟩ := open_res h1
      obtain ⟨x4, u4, rfl⟩ := DataW.trod_bool Tryd.underlying4 h2
      obtain ⟨x5, u5, rfl, w5⟩ := DataW.trod_int Tryd.underlying3 h3
      obtain ⟨x6, u6, rfl, w6⟩ := DataW.trod_int Tryd.underlying3 h4
      obtain ⟨x7, u7, rfl, w7⟩ := DataW.trod_int Tryd.underlying3 h5
      simp at u4 u5 u6 u7
      subst u4 u5 u6 u7
      simp only [Prod.mk.injEq] at hx
      exact ⟨x0, x1, x2, x3, x4, x5, x6, x7, rfl, by simpa using hx.1, by simpa using hx.2, w0, w1, w2, w3, w5, w6, w7⟩

theorem reads_budget (x0 x1 x2 x3 : Int) (x4 : Bool) (x5 x6 x7 : Int)
    (w0 : (Lit.int .i64 x0).wf = true) (w1 : (Lit.int .i64 x1).wf = true) (w2 : (Lit.int .i64 x2).wf = true) (w3 : (Lit.int .i64 x3).wf = true) (w5 : (Lit.int .i64 x5).wf = true) (w6 : (Lit.int .i64 x6).wf = true) (w7 : (Lit.int .i64 x7).wf = true) :
    DataW.Trod enc Tryd.prog w base spare held 30 (.agg #[.int .i64 x0, .int .i64 x1, .int .i64 x2, .int .i64 x3, .bool x4, .int .i64 x5, .int .i64 x6, .int .i64 x7])
      (.agg [.agg [.lit (.int .i64 x0), .lit (.int .i64 x1)], .agg [.lit (.int .i64 x2), .lit (.int .i64 x3)], .lit (.bool x4), .lit (.int .i64 x5), .lit (.int .i64 x6), .lit (.int .i64 x7)]) [] :=
  ⟨3, by simp [DataW.trod, Value.cells, Tryd.underlying30, Tryd.underlying23, Tryd.underlying3, Tryd.underlying4, cellsInt, cellsBool, cellsRes, cellsBudget, w0, w1, w2, w3, w5, w6, w7]⟩
end
end Go.Proofs.YtbkbmpnhjmcenaaDoor
