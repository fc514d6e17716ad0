/- What an append of jobs makes; no condition but those that each row names. -/
import Derived.Test.YtpfhebfkhailfaaDoorQMem
namespace Go.Proofs.YtpfhebfkhailfaaDoor
open Go.RowKit Tsk

/-- What is appended: m jobs, their cells. -/
def SrcJ (w : World) (u : Value) (m : Nat) (ys : List Value) : Prop := ∃ p cap, u = .slice p m cap ∧ ys.length = m * 4 ∧ ∀ j y, ys[j]? = some y → ∃ b off, p = some ⟨b, off, none⟩ ∧ w.cell? ⟨b, off + j, none⟩ = some y
theorem run_append_jobs (w : World) (ty : TypeId) (base : Nat) (v : Value) (n : Nat) (xs : List Value) (hown : w.ownsRow base JT 4 v n xs) (u : Value) (m : Nat) (ys : List Value) (hu : SrcJ w u m ys) (h1 : ∀ u ∈ ys, u.oneCell' = true) (hm : (n + m) * 32 ≤ 140737488355328) (hbase : base ≤ w.heap.size) :
    ∃ p cap w', (Builtin.append_ #[22, 22] ty #[v, u]).run Tryd.prog w = .ok (.slice p (n + m) cap) w' ∧ w'.ownsRow base JT 4 (.slice p (n + m) cap) (n + m) (xs ++ ys) ∧ w.grownBy w' v.ownBlock ∧
      (∀ g, (Value.slice p (n + m) cap).ownBlock = some g → v.ownBlock = some g ∨ w.heap.size ≤ g) := by
  obtain ⟨i0, hi, hz0, hz1, hz2⟩ := info_parts Tryd.infJb
  obtain ⟨p, cap, rfl, hl, hc⟩ := hu
  cases m with
  | zero =>
    obtain rfl : ys = [] := List.eq_nil_of_length_eq_zero (by omega)
    obtain ⟨p', cap', rfl, hle⟩ := own_small hown
    refine ⟨p', cap', w, ?_, by simpa using hown, ⟨rfl, rfl, rfl, Nat.le_refl _, fun _ _ _ => rfl⟩, fun g e => .inl e⟩
    refine run_append_nothing w 22 22 ty JT i0 Tryd.underlying22 hi p' n cap' hle _ ?_
    cases p with
    | none => exact Src.ofNil w Tryd.underlying22 cap
    | some a => exact Src.ofSlice w Tryd.underlying22 a 0 cap [] (by simp) (fun j u hj => by simp at hj) (fun u hu => by simp at hu)
  | succ m =>
    obtain ⟨y, hy⟩ : ∃ y, ys[0]? = some y := ⟨_, List.getElem?_eq_getElem (by omega)⟩
    obtain ⟨b, off, rfl, _⟩ := hc 0 y hy
    obtain ⟨g, cap', w', hr, ho, hg, hat, hlt⟩ := run_append_lies (P := Tryd.prog) (w := w) 22 ty base JT i0 (.agg #[.int .i64 0, .int .i64 0, .int .i64 0, .int .i64 0]) 4 32 Tryd.underlying22 hi hz0 hz1 hz2 rfl (by decide) v n xs hown ⟨b, off, none⟩ (m + 1) cap ys hl
      (fun j u hj => by
        obtain ⟨b', off', e, hcell⟩ := hc j u hj
        cases e
        have hadd : (⟨b, off, none⟩ : Addr).add j = ⟨b, off + j, none⟩ := by unfold Addr.add; split <;> simp_all
        rw [hadd]; exact hcell) h1 (by omega) (by unfold maxLen; omega) (by omega) hbase _ rfl
    refine ⟨_, _, w', hr, ho, hg, fun g' e => ?_⟩
    simp [Value.ownBlock] at e
    subst e
    rcases hat with e | e
    · exact .inl e
    · exact .inr (by omega)
theorem wpList_append_jobs {w : World} {ops : Array Oper} {rest : List Oper} {o : Oper} {a : Act} {Q : Exit → Act → World → Prop} (hgd : o.guard = none) (s x : Operand)
    (ho : o.op = .call { callee := .builtin .append, args := #[s, x], argTypes := #[22, 22] })
    (base : Nat) (v : Value) (n : Nat) (xs : List Value) (hs : a.eval s = v) (hown : w.ownsRow base JT 4 v n xs) (u : Value) (m : Nat) (ys : List Value) (hx : a.eval x = u) (hu : SrcJ w u m ys) (h1 : ∀ u ∈ ys, u.oneCell' = true) (hm : (n + m) * 32 ≤ 140737488355328) (hbase : base ≤ w.heap.size)
    (h : ∀ p cap w', w'.ownsRow base JT 4 (.slice p (n + m) cap) (n + m) (xs ++ ys) → w.grownBy w' v.ownBlock → (∀ g, (Value.slice p (n + m) cap).ownBlock = some g → v.ownBlock = some g ∨ w.heap.size ≤ g) → wpList Tryd.prog ops Q rest (a.put o.dst (.slice p (n + m) cap)) w') : wpList Tryd.prog ops Q (o :: rest) a w := by
  refine wpList_plain hgd fun K hK => ?_
  obtain ⟨p, cap, w', hr, h2, h3, h4⟩ := run_append_jobs w o.type base v n xs hown u m ys hu h1 hm hbase
  unfold Oper.wp execOp
  simp only [ho, resolve, invoke, builtin, Sem.run_bind, Sem.run_pure, Result.andThen_ok, List.map_toArray, List.map_cons, List.map_nil, hs, hx, hr]
  exact hK _ _ (h p cap w' h2 h3 h4)
/-- A slice that reads as jobs is such a source. -/
theorem src_jobs {w : World} {v : Value} {n : Nat} {f : Nat → Jb} (h : Jobs w v n f) : SrcJ w v n (jbL f n) := by
  obtain ⟨p, cap, rfl, _, hc⟩ := h
  refine ⟨p, cap, rfl, jbL_len f n, fun j y hy => ?_⟩
  have hj : j < n * 4 := by have := (List.getElem?_eq_some_iff.1 hy).1; rwa [jbL_len] at this
  obtain ⟨b, off, e, c0, c1, c2, c3⟩ := hc (j / 4) (by omega)
  refine ⟨b, off, e, ?_⟩
  unfold jbL at hy
  rw [lst_at hj] at hy
  cases hy
  have hr : j % 4 = 0 ∨ j % 4 = 1 ∨ j % 4 = 2 ∨ j % 4 = 3 := by omega
  have hd : j = j / 4 * 4 + j % 4 := by omega
  generalize j / 4 = i at *
  rcases hr with r | r | r | r
  · rw [r] at hd ⊢; rw [hd]; exact c0
  · rw [r] at hd ⊢; rw [hd, ← Nat.add_assoc]; exact c1
  · rw [r] at hd ⊢; rw [hd, ← Nat.add_assoc]; exact c2
  · rw [r] at hd ⊢; rw [hd, ← Nat.add_assoc]; exact c3
/-- One job that lies in a block of its own. -/
theorem src_one (w : World) (j : Jb) (t : TypeId) : SrcJ (w.alloc (.cells #[.int .i64 j.l, .int .i64 j.c, .int .i64 j.a, .int .i64 j.d] t)) (.slice (some ⟨w.heap.size, 0, none⟩) 1 1) 1 [.int .i64 j.l, .int .i64 j.c, .int .i64 j.a, .int .i64 j.d] := by
  refine ⟨_, _, rfl, rfl, fun i y hy => ⟨w.heap.size, 0, rfl, ?_⟩⟩
  rw [Nat.zero_add, has_cell (has_new w (.cells #[.int .i64 j.l, .int .i64 j.c, .int .i64 j.a, .int .i64 j.d] t) _ rfl)]
  simpa using hy
end Go.Proofs.YtpfhebfkhailfaaDoor
