/- An act of the law read from its place: one rule, so that the kernel needn't run eighteen loads at each place. -/
import Derived.Test.YtdbfjcdglcagaaaPOpens
import Derived.Deep.MidRow
namespace Go.Proofs.Ytdbfjcdglcagaaa
open Go.RowKit Go.Deep Bk
theorem opInfo : (Try.prog.info? 31).map (·.size) = some 18 := by kernel_rfl
/-- The cells of an act at a place. -/
def OpAt (w : World) (g o : Nat) (q : Oy) : Prop := w.cell? ⟨g, o, none⟩ = some (.int .i64 q.kind) ∧ w.cell? ⟨g, o + 1, none⟩ = some (.int .i64 q.h) ∧ w.cell? ⟨g, o + 2, none⟩ = some (.int .i64 q.up) ∧ w.cell? ⟨g, o + 3, none⟩ = some q.pv ∧ w.cell? ⟨g, o + 4, none⟩ = some (.int .i64 q.n) ∧ w.cell? ⟨g, o + 5, none⟩ = some (.bool q.b) ∧ w.cell? ⟨g, o + 6, none⟩ = some (.int .i64 q.a.g) ∧ w.cell? ⟨g, o + 7, none⟩ = some (.int .i64 q.a.o) ∧ w.cell? ⟨g, o + 8, none⟩ = some (.int .i64 q.a.l) ∧ w.cell? ⟨g, o + 9, none⟩ = some (.int .i64 q.a.d) ∧ w.cell? ⟨g, o + 10, none⟩ = some (.int .i64 q.a.c) ∧ w.cell? ⟨g, o + 11, none⟩ = some (.int .i64 q.a.t) ∧ w.cell? ⟨g, o + 12, none⟩ = some (.int .i64 q.c.g) ∧ w.cell? ⟨g, o + 13, none⟩ = some (.int .i64 q.c.o) ∧ w.cell? ⟨g, o + 14, none⟩ = some (.int .i64 q.c.l) ∧ w.cell? ⟨g, o + 15, none⟩ = some (.int .i64 q.c.d) ∧ w.cell? ⟨g, o + 16, none⟩ = some (.int .i64 q.c.c) ∧ w.cell? ⟨g, o + 17, none⟩ = some (.int .i64 q.c.t)
theorem wp_load_op {op : Oper} {a : Act} {w : World} {K : Act → World → Prop} {Q : Exit → Act → World → Prop} (x : Operand) (ho : op.op = .load 31 x) (g o : Nat) (hx : a.eval x = .pointer (some ⟨g, o, none⟩)) (q : Oy) (hc : OpAt w g o q) (h : K (a.put op.dst (oV q)) w) : op.wp Try.prog a w K Q := by
  obtain ⟨c0, c1, c2, c3, c4, c5, c6, c7, c8, c9, c10, c11, c12, c13, c14, c15, c16, c17⟩ := hc
  refine wp_load_mid 31 x ho g o hx [(.int .i64 q.kind), (.int .i64 q.h), (.int .i64 q.up), q.pv, (.int .i64 q.n), (.bool q.b), (.int .i64 q.a.g), (.int .i64 q.a.o), (.int .i64 q.a.l), (.int .i64 q.a.d), (.int .i64 q.a.c), (.int .i64 q.a.t), (.int .i64 q.c.g), (.int .i64 q.c.o), (.int .i64 q.c.l), (.int .i64 q.c.d), (.int .i64 q.c.c), (.int .i64 q.c.t)] _ (fun j v hv => ?_) Try.underlying31 rfl opInfo h
  match j, hv with
  | 0, hv => cases hv; exact c0
  | 1, hv => cases hv; exact c1
  | 2, hv => cases hv; exact c2
  | 3, hv => cases hv; exact c3
  | 4, hv => cases hv; exact c4
  | 5, hv => cases hv; exact c5
  | 6, hv => cases hv; exact c6
  | 7, hv => cases hv; exact c7
  | 8, hv => cases hv; exact c8
  | 9, hv => cases hv; exact c9
  | 10, hv => cases hv; exact c10
  | 11, hv => cases hv; exact c11
  | 12, hv => cases hv; exact c12
  | 13, hv => cases hv; exact c13
  | 14, hv => cases hv; exact c14
  | 15, hv => cases hv; exact c15
  | 16, hv => cases hv; exact c16
  | 17, hv => cases hv; exact c17
  | _ + 18, hv => cases hv
end Go.Proofs.Ytdbfjcdglcagaaa
