/- A slice of tasks that comes in, opened to cells; no condition but those that each row names. -/
import Derived.Test.YtedgchafligndaaGreatJKQOpens
import Derived.Test.YtedgchafligndaaGreatJB5
namespace Go.Proofs.YtedgchafligndaaGreat
open Go.ChangeShapes Go.WideShapes Go.RowKit Go.ChangeMaps Go.Deep Tsk

section
variable {H : Type} {enc : TypeId × Value → H} {w : World} {spare : Nat → Bool} {held : Bool}
theorem weights_all {P : Program} {e : TypeId} : ∀ {l : List (DataW H)} {d : DataW H}, d ∈ l → ∀ n ∈ d.weights P e, n ∈ DataW.weightsAll P e l
  | [], _, h, _, _ => by cases h
  | d0 :: l, d, h, n, hn => by
    simp only [DataW.weightsAll, List.mem_append]
    rcases List.mem_cons.1 h with rfl | h
    · exact .inl hn
    · exact .inr (weights_all h n hn)
set_option maxRecDepth 100000 in
theorem open_tasks {fuel : Nat} {v : Value} {x : DataW H × List MemPlace} (h : DataW.trod enc Tryz.prog w 0 spare held fuel 24 [v] = some x) (hw : ∀ m ∈ x.1.weights Tryz.prog 24, m ≤ reachBytes) :
    ∃ n T, Tasks w v n T ∧ n * 80 ≤ 140737488355328 ∧ ∀ j, j < n → (T j).k.c ≤ 9223372036854775807 ∧ (T j).n * 32 ≤ 140737488355328 := by
  rcases open_slice Tryz.underlying24 h with ⟨hc, _⟩ | ⟨a, len, cap, m, n, D, Pl, hcs, _, hl, hm, hmm, hx, hi⟩
  · simp at hc
    subst hc
    exact ⟨0, fun _ => ⟨0, .slice none 0 0, 0, fun _ => ⟨0, 0, 0, 0⟩, ⟨0, 0, 0, 0, 0, 0⟩⟩, ⟨none, 0, rfl, by omega, fun j hj => absurd hj (Nat.not_lt_zero _)⟩, by omega, fun j hj => absurd hj (Nat.not_lt_zero _)⟩
  · simp at hcs
    subst hcs
    have hlm : len ≤ m := by rw [hmm]; split <;> omega
    have hrb := reachBytes_lt
    have e47 : (2 : Nat) ^ 47 = 140737488355328 := by decide
    rw [e47] at hrb
    have hd : x.1 = .slice ((List.range len).map D) ((List.range (m - len)).map fun j => D (len + j)) := congrArg Prod.fst hx
    have hbytes : len * 80 ≤ 140737488355328 := by
      have h1 := hw ((len + (m - len)) * Tryz.prog.bytesOf KT) (by rw [hd]; simp [DataW.weights, Tryz.underlying24])
      rw [show Tryz.prog.bytesOf KT = 80 from by kernel_rfl] at h1
      omega
    have hpl : 0 < len → ∃ b off, a = ⟨b, off, none⟩ := fun h0 => by
      obtain ⟨cs', hc, ht⟩ := hi 0 (by omega)
      rw [cellsTask] at hc
      obtain ⟨_, hcl, hat⟩ := World.cells?_some hc
      match cs', hcl with
      | [u0, u1, u2, u3, u4, u5, u6, u7], _ =>
        have h0 := hat 0 (by simp)
        simp only [List.getElem?_cons_zero] at h0
        exact plain_addr (by simpa [Addr.add] using h0)
    have hel : ∀ i, i < len → ∃ q : Tk, (∃ b off, a = ⟨b, off, none⟩ ∧ w.cell? ⟨b, off + i * 8, none⟩ = some (.int .i64 q.p) ∧ w.cell? ⟨b, off + i * 8 + 1, none⟩ = some q.s ∧ w.cell? ⟨b, off + i * 8 + 2, none⟩ = some (.int .i64 q.k.g) ∧ w.cell? ⟨b, off + i * 8 + 3, none⟩ = some (.int .i64 q.k.o) ∧ w.cell? ⟨b, off + i * 8 + 4, none⟩ = some (.int .i64 q.k.n) ∧ w.cell? ⟨b, off + i * 8 + 5, none⟩ = some (.int .i64 q.k.d) ∧ w.cell? ⟨b, off + i * 8 + 6, none⟩ = some (.int .i64 q.k.c) ∧ w.cell? ⟨b, off + i * 8 + 7, none⟩ = some (.int .i64 q.k.t) ∧ Jobs w q.s q.n q.f) ∧ q.k.c ≤ 9223372036854775807 ∧ q.n * 32 ≤ 140737488355328 := fun i hil => by
      obtain ⟨cs', hc, ht⟩ := hi i (by omega)
      rw [cellsTask] at hc
      obtain ⟨_, hcl, hat⟩ := World.cells?_some hc
      obtain ⟨p0, sv, k, nj, f, d0, dJ, dA, PJ, fj, e, hj, hc4, hdi, hs⟩ := open_task_cells hcl ht
      subst e
      obtain ⟨b, off, rfl⟩ := hpl (by omega)
      have g := fun (j : Nat) (hj : j < 8) => hat j hj
      have g0 := g 0 (by omega)
      have g1 := g 1 (by omega)
      have g2 := g 2 (by omega)
      have g3 := g 3 (by omega)
      have g4 := g 4 (by omega)
      have g5 := g 5 (by omega)
      have g6 := g 6 (by omega)
      have g7 := g 7 (by omega)
      simp only [add_add, List.getElem?_cons_zero, List.getElem?_cons_succ] at g0 g1 g2 g3 g4 g5 g6 g7
      rw [addr_plus] at g0 g1 g2 g3 g4 g5 g6 g7
      refine ⟨⟨p0, sv, nj, f, k⟩, ⟨b, off, rfl, by simpa using g0, by rw [Nat.add_assoc]; exact g1, by rw [Nat.add_assoc]; exact g2, by rw [Nat.add_assoc]; exact g3, by rw [Nat.add_assoc]; exact g4, by rw [Nat.add_assoc]; exact g5, by rw [Nat.add_assoc]; exact g6, by rw [Nat.add_assoc]; exact g7, hj⟩, hc4, ?_⟩
      have hb := jobs_bound hs (fun m' hm' => hw m' (by
        have hdi' : D i = .agg [d0, dJ, dA] := hdi
        have h1 : m' ∈ (D i).weights Tryz.prog KT := by
          rw [hdi']
          simp only [DataW.weights, Tryz.underlying32]
          exact DataW.weights_mem_each (j := 1) (t := 28) rfl rfl m' hm'
        rw [hd]
        simp only [DataW.weights, Tryz.underlying24, List.mem_cons, List.mem_append]
        exact .inr (.inl (weights_all (List.mem_map.2 ⟨i, List.mem_range.2 hil, rfl⟩) m' h1))))
      have hjj := hj
      obtain ⟨pp0, cc0, ee, _, _⟩ := hjj
      exact hb _ _ _ ee
    refine ⟨len, fun i => if hil : i < len then Classical.choose (hel i hil) else ⟨0, .slice none 0 0, 0, fun _ => ⟨0, 0, 0, 0⟩, ⟨0, 0, 0, 0, 0, 0⟩⟩, ⟨some a, cap, rfl, by unfold maxLen at hm; omega, fun j hj => ?_⟩, hbytes, fun j hj => ?_⟩
    · obtain ⟨b, off, ha, c⟩ := (Classical.choose_spec (hel j hj)).1
      refine ⟨b, off, by rw [ha], ?_⟩
      simp only [dif_pos hj]
      exact c
    · simp only [dif_pos hj]
      exact (Classical.choose_spec (hel j hj)).2
end
end Go.Proofs.YtedgchafligndaaGreat
