/- What comes in opened to cells: a slice of numbers, an account, the law's acts; no condition but those that each row names. -/
import Derived.Test.YtdbfjcdglcagaaaPMath
import Derived.Test.YtdbfjcdglcagaaaNIts
import Derived.OpenShut
import Derived.Deep.Slices
import Derived.ChangeSame
import Derived.ChangeMaps5
import Derived.SizedLaws
import Derived.Lib.SmallJoins
namespace Go.Proofs.Ytdbfjcdglcagaaa
open Go.ChangeShapes Go.WideShapes Go.RowKit Go.ChangeMaps Go.Deep Bk

namespace Bk
/-- An act of the law. -/
structure Oy where
  kind : Int
  h : Int
  up : Int
  pv : Value
  pn : Nat
  pf : Nat → Int
  n : Int
  b : Bool
  a : Ac
  c : Ac
end Bk
abbrev oV (o : Oy) : Value := .agg #[(.int .i64 o.kind), (.int .i64 o.h), (.int .i64 o.up), o.pv, (.int .i64 o.n), (.bool o.b), (.int .i64 o.a.g), (.int .i64 o.a.o), (.int .i64 o.a.l), (.int .i64 o.a.d), (.int .i64 o.a.c), (.int .i64 o.a.t), (.int .i64 o.c.g), (.int .i64 o.c.o), (.int .i64 o.c.l), (.int .i64 o.c.d), (.int .i64 o.c.c), (.int .i64 o.c.t)]
/-- What is known of an act that comes in. -/
def OpOk (w : World) (o : Oy) : Prop := Nums w o.pv o.pn o.pf ∧ (∀ i, i < o.pn → I64 (o.pf i)) ∧ o.pn * 8 ≤ 140737488355328 ∧ I64 o.h ∧ I64 o.up ∧ I64 o.n
theorem OpOk.below {w w' : World} {o : Oy} (h : OpOk w o) (hb : Below w.heap.size w w') : OpOk w' o := ⟨h.1.below hb, h.2⟩
/-- A slice of m acts. -/
def OpsIn (w : World) (v : Value) (m : Nat) (T : Nat → Oy) : Prop := ∃ p cap, v = .slice p m cap ∧ m ≤ 9223372036854775807 ∧ ∀ j, j < m → (∃ b off, p = some ⟨b, off, none⟩ ∧ w.cell? ⟨b, off + j * 18, none⟩ = some (.int .i64 (T j).kind) ∧ w.cell? ⟨b, off + j * 18 + 1, none⟩ = some (.int .i64 (T j).h) ∧ w.cell? ⟨b, off + j * 18 + 2, none⟩ = some (.int .i64 (T j).up) ∧ w.cell? ⟨b, off + j * 18 + 3, none⟩ = some (T j).pv ∧ w.cell? ⟨b, off + j * 18 + 4, none⟩ = some (.int .i64 (T j).n) ∧ w.cell? ⟨b, off + j * 18 + 5, none⟩ = some (.bool (T j).b) ∧ w.cell? ⟨b, off + j * 18 + 6, none⟩ = some (.int .i64 (T j).a.g) ∧ w.cell? ⟨b, off + j * 18 + 7, none⟩ = some (.int .i64 (T j).a.o) ∧ w.cell? ⟨b, off + j * 18 + 8, none⟩ = some (.int .i64 (T j).a.l) ∧ w.cell? ⟨b, off + j * 18 + 9, none⟩ = some (.int .i64 (T j).a.d) ∧ w.cell? ⟨b, off + j * 18 + 10, none⟩ = some (.int .i64 (T j).a.c) ∧ w.cell? ⟨b, off + j * 18 + 11, none⟩ = some (.int .i64 (T j).a.t) ∧ w.cell? ⟨b, off + j * 18 + 12, none⟩ = some (.int .i64 (T j).c.g) ∧ w.cell? ⟨b, off + j * 18 + 13, none⟩ = some (.int .i64 (T j).c.o) ∧ w.cell? ⟨b, off + j * 18 + 14, none⟩ = some (.int .i64 (T j).c.l) ∧ w.cell? ⟨b, off + j * 18 + 15, none⟩ = some (.int .i64 (T j).c.d) ∧ w.cell? ⟨b, off + j * 18 + 16, none⟩ = some (.int .i64 (T j).c.c) ∧ w.cell? ⟨b, off + j * 18 + 17, none⟩ = some (.int .i64 (T j).c.t)) ∧ OpOk w (T j)
theorem OpsIn.below {w w' : World} {v : Value} {m : Nat} {T : Nat → Oy} (h : OpsIn w v m T) (hb : Below w.heap.size w w') : OpsIn w' v m T := by
  obtain ⟨p, cap, e, hm, hc⟩ := h
  refine ⟨p, cap, e, hm, fun j hj => ?_⟩
  obtain ⟨⟨b, off, e2, c0, c1, c2, c3, c4, c5, c6, c7, c8, c9, c10, c11, c12, c13, c14, c15, c16, c17⟩, ho⟩ := hc j hj
  have hl := cell_lt c0
  have k := fun (o : Nat) => hb.cell (p := ⟨b, o, none⟩) hl
  exact ⟨⟨b, off, e2, (k _).trans c0, (k _).trans c1, (k _).trans c2, (k _).trans c3, (k _).trans c4, (k _).trans c5, (k _).trans c6, (k _).trans c7, (k _).trans c8, (k _).trans c9, (k _).trans c10, (k _).trans c11, (k _).trans c12, (k _).trans c13, (k _).trans c14, (k _).trans c15, (k _).trans c16, (k _).trans c17⟩, ho.below hb⟩
theorem laidOut : laidOutB Try.prog = true := by kernel_rfl
theorem cellsInt : Try.prog.cellsOf 3 = 1 := by kernel_rfl
theorem cellsBool : Try.prog.cellsOf 4 = 1 := by kernel_rfl
theorem cellsHan : Try.prog.cellsOf 25 = 1 := by kernel_rfl
theorem cellsHans : Try.prog.cellsOf 26 = 1 := by kernel_rfl
theorem cellsAcc : Try.prog.cellsOf 29 = 6 := by kernel_rfl
theorem cellsOp : Try.prog.cellsOf 31 = 18 := by kernel_rfl
theorem plain_addr {w : World} {a : Addr} {v : Value} (h : w.cell? a = some v) : ∃ b off, a = ⟨b, off, none⟩ := by
  obtain ⟨b, off, spot⟩ := a
  have hs : spot = none := World.cell?_spot h
  subst hs
  exact ⟨b, off, rfl⟩

section
variable {H : Type} {enc : TypeId × Value → H} {w : World} {spare : Nat → Bool} {held : Bool}
theorem weights_all {P : Program} {e : TypeId} : ∀ {l : List (DataW H)} {d : DataW H}, d ∈ l → ∀ n ∈ d.weights P e, n ∈ DataW.weightsAll P e l
  | [], _, h, _, _ => by cases h
  | d0 :: l, d, h, n, hn => by
    simp only [DataW.weightsAll, List.mem_append]
    rcases List.mem_cons.1 h with rfl | h
    · exact .inl hn
    · exact .inr (weights_all h n hn)
set_option maxRecDepth 100000 in
/-- A slice of handles. -/
theorem open_hans {fuel : Nat} {v : Value} {x : DataW H × List MemPlace} (h : DataW.trod enc Try.prog w 0 spare held fuel 26 [v] = some x) (hw : ∀ m ∈ x.1.weights Try.prog 26, m ≤ reachBytes) :
    ∃ n f, Nums w v n f ∧ (∀ i, i < n → I64 (f i)) ∧ n * 8 ≤ 140737488355328 := by
  rcases open_slice Try.underlying26 h with ⟨hc, _⟩ | ⟨a, len, cap, m, n, D, Pl, hcs, _, hl, hm, hmm, hx, hi⟩
  · simp at hc
    subst hc
    exact ⟨0, fun _ => 0, ⟨none, 0, rfl, by omega, fun j hj => by omega⟩, fun j hj => by omega, by omega⟩
  · simp at hcs
    subst hcs
    have hlm : len ≤ m := by rw [hmm]; split <;> omega
    have hrb := reachBytes_lt
    have e47 : (2 : Nat) ^ 47 = 140737488355328 := by decide
    rw [e47] at hrb
    have hd : x.1 = .slice ((List.range len).map D) ((List.range (m - len)).map fun j => D (len + j)) := congrArg Prod.fst hx
    have hbytes : len * 8 ≤ 140737488355328 := by
      have h1 := hw ((len + (m - len)) * Try.prog.bytesOf 25) (by rw [hd]; simp [DataW.weights, Try.underlying26])
      rw [show Try.prog.bytesOf 25 = 8 from by kernel_rfl] at h1
      omega
    have hpl : 0 < len → ∃ b off, a = ⟨b, off, none⟩ := fun h0 => by
      obtain ⟨cs', hc, _⟩ := hi 0 (by omega)
      rw [cellsHan] at hc
      obtain ⟨_, hcl, hat⟩ := World.cells?_some hc
      match cs', hcl with
      | [u0], _ =>
        have h0 := hat 0 (by simp)
        simp only [List.getElem?_cons_zero] at h0
        exact plain_addr (by simpa [Addr.add] using h0)
    have hel : ∀ i, i < len → ∃ q : Int, (∃ b off, a = ⟨b, off, none⟩ ∧ w.cell? ⟨b, off + i, none⟩ = some (.int .i64 q)) ∧ I64 q := fun i hil => by
      obtain ⟨cs', hc, ht⟩ := hi i (by omega)
      rw [cellsHan] at hc
      obtain ⟨_, hcl, hat⟩ := World.cells?_some hc
      match cs', hcl with
      | [u0], _ =>
        obtain ⟨z0, e0, _, w0⟩ := DataW.trod_int Try.underlying25 ht
        simp at e0
        subst e0
        have h0 := hat 0 (by simp)
        simp only [add_add, List.getElem?_cons_zero] at h0
        obtain ⟨b, off, rfl⟩ := hpl (by omega)
        rw [addr_plus] at h0
        exact ⟨z0, ⟨b, off, rfl, by simpa using h0⟩, bounds_i64 w0⟩
    refine ⟨len, fun i => if hil : i < len then Classical.choose (hel i hil) else 0, ⟨some a, cap, rfl, by unfold maxLen at hm; omega, fun j hj => ?_⟩, fun j hj => ?_, hbytes⟩
    · obtain ⟨b, off, ha, c⟩ := (Classical.choose_spec (hel j hj)).1
      refine ⟨b, off, by rw [ha], ?_⟩
      simp only [dif_pos hj]
      exact c
    · simp only [dif_pos hj]
      exact (Classical.choose_spec (hel j hj)).2
set_option maxRecDepth 100000 in
/-- An account: its cells. -/
theorem open_acc6 {fuel : Nat} {c0 c1 c2 c3 c4 c5 : Value} {x : DataW H × List MemPlace} (h : DataW.trod enc Try.prog w 0 spare held fuel 29 [c0, c1, c2, c3, c4, c5] = some x) :
    ∃ a : Ac, c0 = .int .i64 a.g ∧ c1 = .int .i64 a.o ∧ c2 = .int .i64 a.l ∧ c3 = .int .i64 a.d ∧ c4 = .int .i64 a.c ∧ c5 = .int .i64 a.t := by
  obtain ⟨xs, n, _, _, _, hlen, hg⟩ := DataW.trod_struct Try.underlying29 h
  match xs, hlen with
  | [y0, y1, y2, y3, y4, y5], _ =>
    have h0 := hg 0 _ rfl
    have h1 := hg 1 _ rfl
    have h2 := hg 2 _ rfl
    have h3 := hg 3 _ rfl
    have h4 := hg 4 _ rfl
    have h5 := hg 5 _ rfl
    simp [cellsInt] at h0 h1 h2 h3 h4 h5
    obtain ⟨a0, u0, _, _⟩ := DataW.trod_int Try.underlying3 h0
    obtain ⟨a1, u1, _, _⟩ := DataW.trod_int Try.underlying3 h1
    obtain ⟨a2, u2, _, _⟩ := DataW.trod_int Try.underlying3 h2
    obtain ⟨a3, u3, _, _⟩ := DataW.trod_int Try.underlying3 h3
    obtain ⟨a4, u4, _, _⟩ := DataW.trod_int Try.underlying3 h4
    obtain ⟨a5, u5, _, _⟩ := DataW.trod_int Try.underlying3 h5
    simp at u0 u1 u2 u3 u4 u5
    exact ⟨⟨a0, a1, a2, a3, a4, a5⟩, u0, u1, u2, u3, u4, u5⟩
set_option maxRecDepth 100000 in
/-- An account that comes in. -/
theorem open_account {r : Reach} {b0 : Nat} {v : Value} {d : DataW H} {P : List MemPlace} (hv : Value.okWide Try.prog w r b0 29 v) (h : DataW.Trod enc Try.prog w 0 spare held 29 v d P) : ∃ a : Ac, v = aV a := by
  obtain ⟨cs, rfl, hsz⟩ := okWide_struct Try.underlying29 hv
  obtain ⟨l⟩ := cs
  match l, hsz.trans cellsAcc with
  | [c0, c1, c2, c3, c4, c5], _ =>
    obtain ⟨fuel, hf⟩ := h
    obtain ⟨a, rfl, rfl, rfl, rfl, rfl, rfl⟩ := open_acc6 hf
    exact ⟨a, rfl⟩
set_option maxRecDepth 100000 in
/-- An act: its cells. -/
theorem open_op_cells {fuel : Nat} {cs : List Value} {x : DataW H × List MemPlace} (hcs : cs.length = 18) (h : DataW.trod enc Try.prog w 0 spare held fuel 31 cs = some x) (hw : ∀ m ∈ x.1.weights Try.prog 31, m ≤ reachBytes) :
    ∃ o : Oy, cs = [.int .i64 o.kind, .int .i64 o.h, .int .i64 o.up, o.pv, .int .i64 o.n, .bool o.b, .int .i64 o.a.g, .int .i64 o.a.o, .int .i64 o.a.l, .int .i64 o.a.d, .int .i64 o.a.c, .int .i64 o.a.t, .int .i64 o.c.g, .int .i64 o.c.o, .int .i64 o.c.l, .int .i64 o.c.d, .int .i64 o.c.c, .int .i64 o.c.t] ∧ OpOk w o := by
  obtain ⟨xs, fj, _, hx, _, hlen, hg⟩ := DataW.trod_struct Try.underlying31 h
  match cs, hcs with
  | [c0, c1, c2, c3, c4, c5, c6, c7, c8, c9, c10, c11, c12, c13, c14, c15, c16, c17], _ =>
    match xs, hlen with
    | [y0, y1, y2, y3, y4, y5, y6, y7], _ =>
      have h0 := hg 0 _ rfl
      have h1 := hg 1 _ rfl
      have h2 := hg 2 _ rfl
      have h3 := hg 3 _ rfl
      have h4 := hg 4 _ rfl
      have h5 := hg 5 _ rfl
      have h6 := hg 6 _ rfl
      have h7 := hg 7 _ rfl
      simp [cellsInt, cellsHan, cellsHans, cellsBool, cellsAcc] at h0 h1 h2 h3 h4 h5 h6 h7
      obtain ⟨k0, u0, _, _⟩ := DataW.trod_int Try.underlying3 h0
      obtain ⟨k1, u1, _, w1⟩ := DataW.trod_int Try.underlying25 h1
      obtain ⟨k2, u2, _, w2⟩ := DataW.trod_int Try.underlying25 h2
      obtain ⟨k4, u4, _, w4⟩ := DataW.trod_int Try.underlying3 h4
      obtain ⟨k5, u5, _⟩ := DataW.trod_bool Try.underlying4 h5
      simp at u0 u1 u2 u4 u5
      obtain ⟨n, f, hj, hf, hb⟩ := open_hans h3 (fun m hm => hw m (by
        rw [hx]
        simp only [DataW.weights, Try.underlying31]
        exact DataW.weights_mem_each (j := 3) (t := 26) rfl rfl m hm))
      obtain ⟨a, rfl, rfl, rfl, rfl, rfl, rfl⟩ := open_acc6 h6
      obtain ⟨b, rfl, rfl, rfl, rfl, rfl, rfl⟩ := open_acc6 h7
      subst u0 u1 u2 u4 u5
      exact ⟨⟨k0, k1, k2, c3, n, f, k4, k5, a, b⟩, rfl, hj, hf, hb, bounds_i64 w1, bounds_i64 w2, bounds_i64 w4⟩
set_option maxRecDepth 100000 in
theorem open_ops {fuel : Nat} {v : Value} {x : DataW H × List MemPlace} (h : DataW.trod enc Try.prog w 0 spare held fuel 22 [v] = some x) (hw : ∀ m ∈ x.1.weights Try.prog 22, m ≤ reachBytes) :
    ∃ m T, OpsIn w v m T := by
  rcases open_slice Try.underlying22 h with ⟨hc, _⟩ | ⟨a, len, cap, m, n, D, Pl, hcs, _, hl, hm, hmm, hx, hi⟩
  · simp at hc
    subst hc
    exact ⟨0, fun _ => ⟨0, 0, 0, .slice none 0 0, 0, fun _ => 0, 0, false, z6, z6⟩, none, 0, rfl, by omega, fun j hj => absurd hj (Nat.not_lt_zero _)⟩
  · simp at hcs
    subst hcs
    have hlm : len ≤ m := by rw [hmm]; split <;> omega
    have hd : x.1 = .slice ((List.range len).map D) ((List.range (m - len)).map fun j => D (len + j)) := congrArg Prod.fst hx
    have hpl : 0 < len → ∃ b off, a = ⟨b, off, none⟩ := fun h0 => by
      obtain ⟨cs', hc, _⟩ := hi 0 (by omega)
      rw [cellsOp] at hc
      obtain ⟨_, hcl, hat⟩ := World.cells?_some hc
      have h0 := hat 0 (by omega)
      obtain ⟨u, hu⟩ : ∃ u, cs'[0]? = some u := ⟨_, List.getElem?_eq_getElem (by omega)⟩
      rw [hu] at h0
      exact plain_addr (by simpa [Addr.add] using h0)
    have hel : ∀ i, i < len → ∃ q : Oy, (∃ b off, a = ⟨b, off, none⟩ ∧ w.cell? ⟨b, off + i * 18, none⟩ = some (.int .i64 q.kind) ∧ w.cell? ⟨b, off + i * 18 + 1, none⟩ = some (.int .i64 q.h) ∧ w.cell? ⟨b, off + i * 18 + 2, none⟩ = some (.int .i64 q.up) ∧ w.cell? ⟨b, off + i * 18 + 3, none⟩ = some q.pv ∧ w.cell? ⟨b, off + i * 18 + 4, none⟩ = some (.int .i64 q.n) ∧ w.cell? ⟨b, off + i * 18 + 5, none⟩ = some (.bool q.b) ∧ w.cell? ⟨b, off + i * 18 + 6, none⟩ = some (.int .i64 q.a.g) ∧ w.cell? ⟨b, off + i * 18 + 7, none⟩ = some (.int .i64 q.a.o) ∧ w.cell? ⟨b, off + i * 18 + 8, none⟩ = some (.int .i64 q.a.l) ∧ w.cell? ⟨b, off + i * 18 + 9, none⟩ = some (.int .i64 q.a.d) ∧ w.cell? ⟨b, off + i * 18 + 10, none⟩ = some (.int .i64 q.a.c) ∧ w.cell? ⟨b, off + i * 18 + 11, none⟩ = some (.int .i64 q.a.t) ∧ w.cell? ⟨b, off + i * 18 + 12, none⟩ = some (.int .i64 q.c.g) ∧ w.cell? ⟨b, off + i * 18 + 13, none⟩ = some (.int .i64 q.c.o) ∧ w.cell? ⟨b, off + i * 18 + 14, none⟩ = some (.int .i64 q.c.l) ∧ w.cell? ⟨b, off + i * 18 + 15, none⟩ = some (.int .i64 q.c.d) ∧ w.cell? ⟨b, off + i * 18 + 16, none⟩ = some (.int .i64 q.c.c) ∧ w.cell? ⟨b, off + i * 18 + 17, none⟩ = some (.int .i64 q.c.t)) ∧ OpOk w q := fun i hil => by
      obtain ⟨cs', hc, ht⟩ := hi i (by omega)
      rw [cellsOp] at hc
      obtain ⟨_, hcl, hat⟩ := World.cells?_some hc
      obtain ⟨q, e, hq⟩ := open_op_cells hcl ht (fun m' hm' => hw m' (by
        rw [hd]
        simp only [DataW.weights, Try.underlying22, List.mem_cons, List.mem_append]
        exact .inr (.inl (weights_all (List.mem_map.2 ⟨i, List.mem_range.2 hil, rfl⟩) m' hm'))))
      subst e
      obtain ⟨b, off, rfl⟩ := hpl (by omega)
      have g := fun (j : Nat) (hj : j < 18) => hat j hj
      have g0 := g 0 (by omega)
      have g1 := g 1 (by omega)
      have g2 := g 2 (by omega)
      have g3 := g 3 (by omega)
      have g4 := g 4 (by omega)
      have g5 := g 5 (by omega)
      have g6 := g 6 (by omega)
      have g7 := g 7 (by omega)
      have g8 := g 8 (by omega)
      have g9 := g 9 (by omega)
      have g10 := g 10 (by omega)
      have g11 := g 11 (by omega)
      have g12 := g 12 (by omega)
      have g13 := g 13 (by omega)
      have g14 := g 14 (by omega)
      have g15 := g 15 (by omega)
      have g16 := g 16 (by omega)
      have g17 := g 17 (by omega)
      simp only [add_add, List.getElem?_cons_zero, List.getElem?_cons_succ] at g0 g1 g2 g3 g4 g5 g6 g7 g8 g9 g10 g11 g12 g13 g14 g15 g16 g17
      rw [addr_plus] at g0 g1 g2 g3 g4 g5 g6 g7 g8 g9 g10 g11 g12 g13 g14 g15 g16 g17
      exact ⟨q, ⟨b, off, rfl, by simpa using g0, by rw [Nat.add_assoc]; exact g1, by rw [Nat.add_assoc]; exact g2, by rw [Nat.add_assoc]; exact g3, by rw [Nat.add_assoc]; exact g4, by rw [Nat.add_assoc]; exact g5, by rw [Nat.add_assoc]; exact g6, by rw [Nat.add_assoc]; exact g7, by rw [Nat.add_assoc]; exact g8, by rw [Nat.add_assoc]; exact g9, by rw [Nat.add_assoc]; exact g10, by rw [Nat.add_assoc]; exact g11, by rw [Nat.add_assoc]; exact g12, by rw [Nat.add_assoc]; exact g13, by rw [Nat.add_assoc]; exact g14, by rw [Nat.add_assoc]; exact g15, by rw [Nat.add_assoc]; exact g16, by rw [Nat.add_assoc]; exact g17⟩, hq⟩
    refine ⟨len, fun i => if hil : i < len then Classical.choose (hel i hil) else ⟨0, 0, 0, .slice none 0 0, 0, fun _ => 0, 0, false, z6, z6⟩, some a, cap, rfl, by unfold maxLen at hm; omega, fun j hj => ?_⟩
    simp only [dif_pos hj]
    obtain ⟨⟨b, off, ha, c⟩, ho⟩ := Classical.choose_spec (hel j hj)
    exact ⟨⟨b, off, by rw [ha], c⟩, ho⟩
end
end Go.Proofs.Ytdbfjcdglcagaaa
