/- What an append of handles makes; what stays of the books while the map turns; no condition but those that each row names. -/
import Derived.Test.YtdbfjcdglcagaaaPCharge
import Derived.Deep.AppendLies
namespace Go.Proofs.Ytdbfjcdglcagaaa
open Go.RowKit Bk

theorem Try.infHan : (Try.prog.info? HT).map (fun i => (i.zero, i.size, i.bytes)) = some (some (.int .i64 0), 1, 8) := by kernel_rfl
/-- What is appended: m handles, their cells. -/
def SrcH (w : World) (u : Value) (m : Nat) (ys : List Value) : Prop := ∃ p cap, u = .slice p m cap ∧ ys.length = m ∧ ∀ j y, ys[j]? = some y → ∃ b off, p = some ⟨b, off, none⟩ ∧ w.cell? ⟨b, off + j, none⟩ = some y
theorem run_append_hans (w : World) (ty : TypeId) (base : Nat) (v : Value) (n : Nat) (xs : List Value) (hown : w.ownsRow base HT 1 v n xs) (u : Value) (m : Nat) (ys : List Value) (hu : SrcH w u m ys) (h1 : ∀ u ∈ ys, u.oneCell' = true) (hm : (n + m) * 8 ≤ 140737488355328) (hbase : base ≤ w.heap.size) :
    ∃ p cap w', (Builtin.append_ #[26, 26] ty #[v, u]).run Try.prog w = .ok (.slice p (n + m) cap) w' ∧ w'.ownsRow base HT 1 (.slice p (n + m) cap) (n + m) (xs ++ ys) ∧ w.grownBy w' v.ownBlock ∧
      (∀ g, (Value.slice p (n + m) cap).ownBlock = some g → v.ownBlock = some g ∨ w.heap.size ≤ g) := by
  obtain ⟨i0, hi, hz0, hz1, hz2⟩ := info_parts Try.infHan
  obtain ⟨p, cap, rfl, hl, hc⟩ := hu
  cases m with
  | zero =>
    obtain rfl : ys = [] := List.eq_nil_of_length_eq_zero (by omega)
    obtain ⟨p', cap', rfl, hle⟩ := own_small hown
    refine ⟨p', cap', w, ?_, by simpa using hown, ⟨rfl, rfl, rfl, Nat.le_refl _, fun _ _ _ => rfl⟩, fun g e => .inl e⟩
    refine run_append_nothing w 26 26 ty HT i0 Try.underlying26 hi p' n cap' hle _ ?_
    cases p with
    | none => exact Src.ofNil w Try.underlying26 cap
    | some a => exact Src.ofSlice w Try.underlying26 a 0 cap [] (by simp) (fun j u hj => by simp at hj) (fun u hu => by simp at hu)
  | succ m =>
    obtain ⟨y, hy⟩ : ∃ y, ys[0]? = some y := ⟨_, List.getElem?_eq_getElem (by omega)⟩
    obtain ⟨b, off, rfl, _⟩ := hc 0 y hy
    obtain ⟨g, cap', w', hr, ho, hg, hat, hlt⟩ := run_append_lies (P := Try.prog) (w := w) 26 ty base HT i0 (.int .i64 0) 1 8 Try.underlying26 hi hz0 hz1 hz2 rfl (by decide) v n xs hown ⟨b, off, none⟩ (m + 1) cap ys (by rw [hl, Nat.mul_one])
      (fun j u hj => by
        obtain ⟨b', off', e, hcell⟩ := hc j u hj
        cases e
        have hadd : (⟨b, off, none⟩ : Addr).add j = ⟨b, off + j, none⟩ := by unfold Addr.add; split <;> simp_all
        rw [hadd]; exact hcell) h1 (by omega) (by unfold maxLen; omega) (by omega) hbase _ rfl
    refine ⟨_, _, w', hr, ho, hg, fun g' e => ?_⟩
    simp [Value.ownBlock] at e
    subst e
    rcases hat with e | e
    · exact .inl e
    · exact .inr (by omega)
theorem wpList_append_hans {w : World} {ops : Array Oper} {rest : List Oper} {o : Oper} {a : Act} {Q : Exit → Act → World → Prop} (hgd : o.guard = none) (s x : Operand)
    (ho : o.op = .call { callee := .builtin .append, args := #[s, x], argTypes := #[26, 26] })
    (base : Nat) (v : Value) (n : Nat) (xs : List Value) (hs : a.eval s = v) (hown : w.ownsRow base HT 1 v n xs) (u : Value) (m : Nat) (ys : List Value) (hx : a.eval x = u) (hu : SrcH w u m ys) (h1 : ∀ u ∈ ys, u.oneCell' = true) (hm : (n + m) * 8 ≤ 140737488355328) (hbase : base ≤ w.heap.size)
    (h : ∀ p cap w', w'.ownsRow base HT 1 (.slice p (n + m) cap) (n + m) (xs ++ ys) → w.grownBy w' v.ownBlock → (∀ g, (Value.slice p (n + m) cap).ownBlock = some g → v.ownBlock = some g ∨ w.heap.size ≤ g) → wpList Try.prog ops Q rest (a.put o.dst (.slice p (n + m) cap)) w') : wpList Try.prog ops Q (o :: rest) a w := by
  refine wpList_plain hgd fun K hK => ?_
  obtain ⟨p, cap, w', hr, h2, h3, h4⟩ := run_append_hans w o.type base v n xs hown u m ys hu h1 hm hbase
  unfold Oper.wp execOp
  simp only [ho, resolve, invoke, builtin, Sem.run_bind, Sem.run_pure, Result.andThen_ok, List.map_toArray, List.map_cons, List.map_nil, hs, hx, hr]
  exact hK _ _ (h p cap w' h2 h3 h4)
/-- The parts of a row of items. -/

theorem step_append_hans {w : World} {ops : Array Oper} {o : Oper} {a : Act} {K : Act → World → Prop} {Q : Exit → Act → World → Prop} {E : Prop} (hgd : o.guard = none) (s x : Operand)
    (ho : o.op = .call { callee := .builtin .append, args := #[s, x], argTypes := #[26, 26] })
    (base : Nat) (v : Value) (n : Nat) (xs : List Value) (hs : a.eval s = v) (hown : w.ownsRow base HT 1 v n xs) (u : Value) (m : Nat) (ys : List Value) (hx : a.eval x = u) (hu : SrcH w u m ys) (h1 : ∀ u ∈ ys, u.oneCell' = true) (hm : (n + m) * 8 ≤ 140737488355328) (hbase : base ≤ w.heap.size)
    (h : ∀ p cap w', w'.ownsRow base HT 1 (.slice p (n + m) cap) (n + m) (xs ++ ys) → w.grownBy w' v.ownBlock → K (a.put o.dst (.slice p (n + m) cap)) w') :
    if Region.wanted o (yielded ops a.tmps) = true then Oper.wp Try.prog o a w K Q else E := by
  have hw : Region.wanted o (yielded ops a.tmps) = true := by simp [Region.wanted, hgd]
  rw [if_pos hw]
  obtain ⟨p, cap, w', hr, h2, h3, _⟩ := run_append_hans w o.type base v n xs hown u m ys hu h1 hm hbase
  unfold Oper.wp execOp
  simp only [ho, resolve, invoke, builtin, Sem.run_bind, Sem.run_pure, Result.andThen_ok, List.map_toArray, List.map_cons, List.map_nil, hs, hx, hr]
  exact h p cap w' h2 h3
theorem src_nums {w : World} {v : Value} {n : Nat} {f : Nat → Int} (h : Nums w v n f) : SrcH w v n (numL f n) := by
  obtain ⟨p, cap, rfl, _, hc⟩ := h
  refine ⟨p, cap, rfl, numL_len f n, fun j y hy => ?_⟩
  have hj : j < n := by have := (List.getElem?_eq_some_iff.1 hy).1; rwa [numL_len] at this
  obtain ⟨b, off, e, c⟩ := hc j hj
  unfold numL at hy
  rw [lst_at hj] at hy
  cases hy
  exact ⟨b, off, e, c⟩
theorem own_hans {B : Nat} {w : World} {v : Value} {n : Nat} {f : Nat → Int} (h : w.ownsRow B HT 1 v n (numL f n)) (hn : n ≤ 9223372036854775807) : Nums w v n f := by
  obtain ⟨p, cap, rfl, _⟩ := own_small h
  refine ⟨p, cap, rfl, hn, fun j hj => ?_⟩
  obtain ⟨g, cap', e, _, _⟩ := own_block2 h (by omega)
  cases e
  exact ⟨g, 0, rfl, by rw [Nat.zero_add, World.ownsRow.cellAt h j (by omega)]; exact lst_at hj⟩
/-- A row stays while a map turns. -/
theorem own_turn {B e z n : Nat} {w w' : World} {v : Value} {xs : List Value} {mb k : Nat} {F : Int → Option Value} (h : w.ownsRow B e z v n xs) (hm : VMap Try.prog HT w mb F k) (hk : Keeps (fun x => x = mb) w w') : w'.ownsRow B e z v n xs := by
  refine own_keep h hk (fun g hg e2 => ?_)
  obtain ⟨es, clock, hb⟩ := hm.shape
  obtain ⟨_, h2⟩ := h
  rcases h2 with ⟨h2, _⟩ | ⟨g', cap, cur, e1, _, hc, _⟩
  · rw [h2] at hg; simp [Value.ownBlock] at hg
  · rw [e1] at hg
    simp [Value.ownBlock] at hg
    rw [hg, e2, hb] at hc
    cases hc
theorem nums_turn {w w' : World} {v : Value} {n : Nat} {f : Nat → Int} {mb k : Nat} {F : Int → Option Value} (h : Nums w v n f) (hm : VMap Try.prog HT w mb F k) (hk : Keeps (fun x => x = mb) w w') : Nums w' v n f := by
  obtain ⟨p, cap, e, hn, hc⟩ := h
  refine ⟨p, cap, e, hn, fun j hj => ?_⟩
  obtain ⟨b, off, e2, c⟩ := hc j hj
  refine ⟨b, off, e2, (hk.cell (p := ⟨b, off + j, none⟩) (cell_lt c) (fun e3 => ?_)).trans c⟩
  have e4 : b = mb := e3
  rw [e4, hm.no_cell] at c
  cases c
end Go.Proofs.Ytdbfjcdglcagaaa
