/- What comes in opened to cells: a task (a struct of a number, a slice of jobs, an account), a job; no condition but those that each row names. -/
import Derived.Test.YtedgchafligndaaGreatJB2
import Derived.OpenShut
import Derived.Deep.Slices
import Derived.ChangeSame
import Derived.ChangeMaps5
import Derived.SizedLaws
import Derived.Lib.SmallJoins
namespace Go.Proofs.YtedgchafligndaaGreat
open Go.ChangeShapes Go.WideShapes Go.RowKit Go.ChangeMaps Go.Deep Tsk

theorem laidOut : laidOutB Tryz.prog = true := by kernel_rfl
theorem cellsInt : Tryz.prog.cellsOf 3 = 1 := by kernel_rfl
theorem cellsJob : Tryz.prog.cellsOf 45 = 4 := by kernel_rfl
theorem cellsJobs : Tryz.prog.cellsOf 28 = 1 := by kernel_rfl
theorem cellsAcc : Tryz.prog.cellsOf 30 = 6 := by kernel_rfl
theorem cellsTask : Tryz.prog.cellsOf 32 = 8 := by kernel_rfl
theorem plain_addr {w : World} {a : Addr} {v : Value} (h : w.cell? a = some v) : ∃ b off, a = ⟨b, off, none⟩ := by
  obtain ⟨b, off, spot⟩ := a
  have hs : spot = none := World.cell?_spot h
  subst hs
  exact ⟨b, off, rfl⟩

section
variable {H : Type} {enc : TypeId × Value → H} {w : World} {spare : Nat → Bool} {held : Bool}
set_option maxRecDepth 100000 in
/-- A slice of jobs. -/
theorem open_jobs {fuel : Nat} {v : Value} {x : DataW H × List MemPlace} (h : DataW.trod enc Tryz.prog w 0 spare held fuel 28 [v] = some x) : ∃ n f, Jobs w v n f := by
  rcases open_slice Tryz.underlying28 h with ⟨hc, _⟩ | ⟨a, len, cap, m, n, D, Pl, hcs, _, hl, hm, hmm, _, hi⟩
  · simp at hc
    subst hc
    exact ⟨0, fun _ => ⟨0, 0, 0, 0⟩, none, 0, rfl, by omega, fun j hj => by omega⟩
  · simp at hcs
    subst hcs
    have hlm : len ≤ m := by rw [hmm]; split <;> omega
    have hpl : 0 < len → ∃ b off, a = ⟨b, off, none⟩ := fun h0 => by
      obtain ⟨cs', hc, _⟩ := hi 0 (by omega)
      rw [cellsJob] at hc
      obtain ⟨_, hcl, hat⟩ := World.cells?_some hc
      match cs', hcl with
      | [u0, u1, u2, u3], _ =>
        have h0 := hat 0 (by simp)
        simp only [List.getElem?_cons_zero] at h0
        exact plain_addr (by simpa [Addr.add] using h0)
    have hel : ∀ i, i < len → ∃ q : Jb, ∃ b off, a = ⟨b, off, none⟩ ∧ w.cell? ⟨b, off + i * 4, none⟩ = some (.int .i64 q.l) ∧ w.cell? ⟨b, off + i * 4 + 1, none⟩ = some (.int .i64 q.c) ∧ w.cell? ⟨b, off + i * 4 + 2, none⟩ = some (.int .i64 q.a) ∧ w.cell? ⟨b, off + i * 4 + 3, none⟩ = some (.int .i64 q.d) := fun i hil => by
      obtain ⟨cs', hc, ht⟩ := hi i (by omega)
      rw [cellsJob] at hc
      obtain ⟨_, hcl, hat⟩ := World.cells?_some hc
      obtain ⟨xs, n', _, _, _, hxl, hf⟩ := DataW.trod_struct Tryz.underlying45 ht
      match cs', hcl with
      | [u0, u1, u2, u3], _ =>
        have g0 := hf 0 _ rfl
        have g1 := hf 1 _ rfl
        have g2 := hf 2 _ rfl
        have g3 := hf 3 _ rfl
        simp [cellsInt] at g0 g1 g2 g3
        match xs, hxl with
        | [y0, y1, y2, y3], _ =>
          obtain ⟨z0, e0, _, _⟩ := DataW.trod_int Tryz.underlying3 g0
          obtain ⟨z1, e1, _, _⟩ := DataW.trod_int Tryz.underlying3 g1
          obtain ⟨z2, e2, _, _⟩ := DataW.trod_int Tryz.underlying3 g2
          obtain ⟨z3, e3, _, _⟩ := DataW.trod_int Tryz.underlying3 g3
          simp at e0 e1 e2 e3
          subst e0 e1 e2 e3
          have h0 := hat 0 (by simp)
          have h1 := hat 1 (by simp)
          have h2 := hat 2 (by simp)
          have h3 := hat 3 (by simp)
          simp only [add_add, List.getElem?_cons_zero, List.getElem?_cons_succ] at h0 h1 h2 h3
          obtain ⟨b, off, rfl⟩ := hpl (by omega)
          rw [addr_plus] at h0 h1 h2 h3
          exact ⟨⟨z0, z1, z2, z3⟩, b, off, rfl, by simpa using h0, by rw [Nat.add_assoc]; exact h1, by rw [Nat.add_assoc]; exact h2, by rw [Nat.add_assoc]; exact h3⟩
    refine ⟨len, fun i => if hil : i < len then Classical.choose (hel i hil) else ⟨0, 0, 0, 0⟩, some a, cap, rfl, by unfold maxLen at hm; omega, fun j hj => ?_⟩
    obtain ⟨b, off, ha, c⟩ := Classical.choose_spec (hel j hj)
    refine ⟨b, off, by rw [ha], ?_⟩
    simp only [dif_pos hj]
    exact c
set_option maxRecDepth 100000 in
/-- An account. -/
theorem open_acc {fuel : Nat} {c0 c1 c2 c3 c4 c5 : Value} {x : DataW H × List MemPlace} (h : DataW.trod enc Tryz.prog w 0 spare held fuel 30 [c0, c1, c2, c3, c4, c5] = some x) :
    ∃ a0 a1 a2 a3 a4 a5 : Int, c0 = .int .i64 a0 ∧ c1 = .int .i64 a1 ∧ c2 = .int .i64 a2 ∧ c3 = .int .i64 a3 ∧ c4 = .int .i64 a4 ∧ c5 = .int .i64 a5 ∧ a4 ≤ 9223372036854775807 := by
  obtain ⟨xs, n, _, _, _, hlen, hg⟩ := DataW.trod_struct Tryz.underlying30 h
  match xs, hlen with
  | [y0, y1, y2, y3, y4, y5], _ =>
    have h0 := hg 0 _ rfl
    have h1 := hg 1 _ rfl
    have h2 := hg 2 _ rfl
    have h3 := hg 3 _ rfl
    have h4 := hg 4 _ rfl
    have h5 := hg 5 _ rfl
    simp [cellsInt] at h0 h1 h2 h3 h4 h5
    obtain ⟨a0, u0, _, _⟩ := DataW.trod_int Tryz.underlying3 h0
    obtain ⟨a1, u1, _, _⟩ := DataW.trod_int Tryz.underlying3 h1
    obtain ⟨a2, u2, _, _⟩ := DataW.trod_int Tryz.underlying3 h2
    obtain ⟨a3, u3, _, _⟩ := DataW.trod_int Tryz.underlying3 h3
    obtain ⟨a4, u4, _, w4⟩ := DataW.trod_int Tryz.underlying3 h4
    obtain ⟨a5, u5, _, _⟩ := DataW.trod_int Tryz.underlying3 h5
    simp at u0 u1 u2 u3 u4 u5
    exact ⟨a0, a1, a2, a3, a4, a5, u0, u1, u2, u3, u4, u5, (bounds_i64 w4).2⟩
set_option maxRecDepth 100000 in
/-- A task: its cells, its jobs, the datum of its jobs. -/
theorem open_task_cells {fuel : Nat} {cs : List Value} {x : DataW H × List MemPlace} (hcs : cs.length = 8) (h : DataW.trod enc Tryz.prog w 0 spare held fuel 32 cs = some x) :
    ∃ (p0 : Int) (sv : Value) (k : Ac) (n : Nat) (f : Nat → Jb) (d0 dJ dA : DataW H) (PJ : List MemPlace) (fj : Nat), cs = [.int .i64 p0, sv, .int .i64 k.g, .int .i64 k.o, .int .i64 k.n, .int .i64 k.d, .int .i64 k.c, .int .i64 k.t] ∧ Jobs w sv n f ∧ k.c ≤ 9223372036854775807 ∧ x.1 = .agg [d0, dJ, dA] ∧ DataW.trod enc Tryz.prog w 0 spare held fj 28 [sv] = some (dJ, PJ) := by
  obtain ⟨xs, fj, _, hx, _, hlen, hg⟩ := DataW.trod_struct Tryz.underlying32 h
  match cs, hcs with
  | [c0, c1, c2, c3, c4, c5, c6, c7], _ =>
    match xs, hlen with
    | [y0, y1, y2], _ =>
      have h0 := hg 0 _ rfl
      have h1 := hg 1 _ rfl
      have h2 := hg 2 _ rfl
      simp [cellsInt, cellsJobs, cellsAcc] at h0 h1 h2
      obtain ⟨p0, u0, _, _⟩ := DataW.trod_int Tryz.underlying3 h0
      simp at u0
      obtain ⟨n, f, hj⟩ := open_jobs h1
      obtain ⟨a0, a1, a2, a3, a4, a5, rfl, rfl, rfl, rfl, rfl, rfl, hc4⟩ := open_acc h2
      subst u0
      refine ⟨p0, c1, ⟨a0, a1, a2, a3, a4, a5⟩, n, f, y0.1, y1.1, y2.1, y1.2, _, rfl, hj, hc4, ?_, h1⟩
      rw [hx]
      rfl
set_option maxRecDepth 100000 in
theorem open_task {r : Reach} {b0 : Nat} {v : Value} {d : DataW H} {P : List MemPlace} (hv : Value.okWide Tryz.prog w r b0 32 v) (h : DataW.Trod enc Tryz.prog w 0 spare held 32 v d P) :
    ∃ (p0 : Int) (sv : Value) (k : Ac) (n : Nat) (f : Nat → Jb) (d0 dJ dA : DataW H) (PJ : List MemPlace) (fj : Nat), v = tV p0 sv k ∧ Jobs w sv n f ∧ k.c ≤ 9223372036854775807 ∧ d = .agg [d0, dJ, dA] ∧ DataW.trod enc Tryz.prog w 0 spare held fj 28 [sv] = some (dJ, PJ) := by
  obtain ⟨cs, rfl, hsz⟩ := okWide_struct Tryz.underlying32 hv
  obtain ⟨l⟩ := cs
  obtain ⟨fuel, hf⟩ := h
  obtain ⟨p0, sv, k, n, f, d0, dJ, dA, PJ, fj, e, hj, hc4, hd, hs⟩ := open_task_cells (cs := l) (hsz.trans cellsTask) hf
  subst e
  exact ⟨p0, sv, k, n, f, d0, dJ, dA, PJ, fj, rfl, hj, hc4, hd, hs⟩
set_option maxRecDepth 100000 in
/-- A job that comes in. -/
theorem open_job {r : Reach} {b0 : Nat} {v : Value} {d : DataW H} {P : List MemPlace} (hv : Value.okWide Tryz.prog w r b0 45 v) (h : DataW.Trod enc Tryz.prog w 0 spare held 45 v d P) : ∃ j : Jb, v = jV j := by
  obtain ⟨cs, rfl, hsz⟩ := okWide_struct Tryz.underlying45 hv
  obtain ⟨l⟩ := cs
  match l, hsz.trans cellsJob with
  | [c0, c1, c2, c3], _ =>
    obtain ⟨fuel, hf⟩ := h
    obtain ⟨xs, n', _, _, _, hxl, hg⟩ := DataW.trod_struct Tryz.underlying45 hf
    match xs, hxl with
    | [y0, y1, y2, y3], _ =>
      have g0 := hg 0 _ rfl
      have g1 := hg 1 _ rfl
      have g2 := hg 2 _ rfl
      have g3 := hg 3 _ rfl
      simp [cellsInt, Value.cells] at g0 g1 g2 g3
      obtain ⟨z0, e0, _, _⟩ := DataW.trod_int Tryz.underlying3 g0
      obtain ⟨z1, e1, _, _⟩ := DataW.trod_int Tryz.underlying3 g1
      obtain ⟨z2, e2, _, _⟩ := DataW.trod_int Tryz.underlying3 g2
      obtain ⟨z3, e3, _, _⟩ := DataW.trod_int Tryz.underlying3 g3
      simp at e0 e1 e2 e3
      subst e0 e1 e2 e3
      exact ⟨⟨z0, z1, z2, z3⟩, rfl⟩
set_option maxRecDepth 100000 in
theorem jobs_bound {fj : Nat} {sv : Value} {dJ : DataW H} {PJ : List MemPlace} (hs : DataW.trod enc Tryz.prog w 0 spare held fj 28 [sv] = some (dJ, PJ)) (hw : ∀ m ∈ dJ.weights Tryz.prog 28, m ≤ reachBytes) : ∀ p n c, sv = .slice p n c → n * 32 ≤ 140737488355328 := by
  intro p n c e
  subst e
  rcases open_slice Tryz.underlying28 hs with ⟨hc, _⟩ | ⟨a, len, cap, m, n', D, Pl, hcs, _, hl, hm, hmm, hx, _⟩
  · simp at hc; omega
  · simp at hcs
    obtain ⟨_, rfl, _⟩ := hcs
    have hd : dJ = .slice ((List.range n).map D) ((List.range (m - n)).map fun j => D (n + j)) := congrArg Prod.fst hx
    have h1 := hw ((n + (m - n)) * Tryz.prog.bytesOf JT) (by rw [hd]; simp [DataW.weights, Tryz.underlying28])
    rw [show Tryz.prog.bytesOf JT = 32 from by kernel_rfl] at h1
    have hrb := reachBytes_lt
    have e47 : (2 : Nat) ^ 47 = 140737488355328 := by decide
    rw [e47] at hrb
    omega
set_option maxRecDepth 100000 in
/-- How many jobs a task has that comes in. -/
theorem task_bound {ts : List TypeId} {ds : List (DataW H)} (hsz : (DataW.weightsEach Tryz.prog ts ds).all (· ≤ reachBytes) = true) {j : Nat} {d0 dJ dA : DataW H} (ht : ts[j]? = some 32) (hd : ds[j]? = some (.agg [d0, dJ, dA]))
    {fj : Nat} {sv : Value} {PJ : List MemPlace} (hs : DataW.trod enc Tryz.prog w 0 spare held fj 28 [sv] = some (dJ, PJ)) : ∀ p n c, sv = .slice p n c → n * 32 ≤ 140737488355328 := by
  refine jobs_bound hs fun m hm => ?_
  have h1 := List.all_eq_true.1 hsz m (DataW.weights_mem_each ht hd m (by
    simp only [DataW.weights, Tryz.underlying32]
    exact DataW.weights_mem_each (j := 1) (t := 28) rfl rfl m hm))
  simpa using h1
end
end Go.Proofs.YtedgchafligndaaGreat
