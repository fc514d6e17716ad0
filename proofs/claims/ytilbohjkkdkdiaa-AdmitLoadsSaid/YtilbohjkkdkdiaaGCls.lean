/- A slice of claims that reads as a list; a row of the call's own; append; no condition but those that each row names. -/
import Derived.Test.YtilbohjkkdkdiaaGFx
import Derived.Laws.IdiomCopy
namespace Go.Proofs.Ytilbohjkkdkdiaa
open Go.RowKit

/-- A slice that reads as claims. -/
def Rd (w : World) (v : Value) (L : List Cl) : Prop :=
  ∃ p cap, v = .slice p L.length cap ∧ L.length ≤ 4398046511103 ∧ ∀ j (h : j < L.length), ∃ b off, p = some ⟨b, off, none⟩ ∧ w.cell? ⟨b, off + j * 4, none⟩ = some (.int .i64 L[j].s) ∧ w.cell? ⟨b, off + j * 4 + 1, none⟩ = some (.int .i64 L[j].n) ∧ w.cell? ⟨b, off + j * 4 + 2, none⟩ = some (.int .i64 L[j].x) ∧ w.cell? ⟨b, off + j * 4 + 3, none⟩ = some (.bool L[j].d)
theorem Rd.keeps {S : Nat → Prop} {w w' : World} {v : Value} {L : List Cl} (h : Rd w v L) (hk : Keeps S w w') (hp : ∀ b off n c, v = .slice (some ⟨b, off, none⟩) n c → ¬ S b) : Rd w' v L := by
  obtain ⟨p, cap, e, hl, hc⟩ := h
  refine ⟨p, cap, e, hl, fun j hj => ?_⟩
  obtain ⟨b, off, e2, c0, c1, c2, c3⟩ := hc j hj
  have hn := hp b off _ _ (by rw [e, e2])
  exact ⟨b, off, e2, (hk.cell (cell_lt c0) hn).trans c0, (hk.cell (cell_lt c1) hn).trans c1, (hk.cell (cell_lt c2) hn).trans c2, (hk.cell (cell_lt c3) hn).trans c3⟩
theorem Rd.below {w w' : World} {v : Value} {L : List Cl} (h : Rd w v L) (hb : Below w.heap.size w w') : Rd w' v L := by
  obtain ⟨p, cap, e, hl, hc⟩ := h
  refine ⟨p, cap, e, hl, fun j hj => ?_⟩
  obtain ⟨b, off, e2, c0, c1, c2, c3⟩ := hc j hj
  exact ⟨b, off, e2, (hb.cell (cell_lt c0)).trans c0, (hb.cell (cell_lt c1)).trans c1, (hb.cell (cell_lt c2)).trans c2, (hb.cell (cell_lt c3)).trans c3⟩
theorem Rd.nil (w : World) : Rd w (.slice none 0 0) [] := ⟨none, 0, rfl, by simp, fun j h => by simp at h⟩
/-- A row of claims that some call has made. -/
abbrev Cls (T : TypeId) (w : World) (v : Value) (L : List Cl) : Prop := w.ownsRow 0 T 4 v L.length (cells4 L)
theorem own_base {B B' e z n : Nat} {w : World} {v : Value} {xs : List Value} (h : w.ownsRow B e z v n xs) (hB : B' ≤ B) : w.ownsRow B' e z v n xs :=
  ⟨h.1, h.2.imp id (fun ⟨g, cap, cur, e, hb, r⟩ => ⟨g, cap, cur, e, Nat.le_trans hB hb, r⟩)⟩
theorem own_small {B e z n : Nat} {w : World} {v : Value} {xs : List Value} (h : w.ownsRow B e z v n xs) : ∃ p cap, v = .slice p n cap ∧ n ≤ cap := by
  rcases h.2 with ⟨rfl, h2⟩ | ⟨g, cap, cur, rfl, _, _, hn, _⟩
  · exact ⟨none, 0, by rw [h2], by omega⟩
  · exact ⟨_, _, rfl, hn⟩
theorem own_rd {B T : Nat} {w : World} {v : Value} {L : List Cl} (h : w.ownsRow B T 4 v L.length (cells4 L)) (hl : L.length ≤ 4398046511103) : Rd w v L := by
  have h' := h
  rcases h.2 with ⟨rfl, h2⟩ | ⟨g, cap, cur, rfl, _, hg, hn, _, hsz, ht⟩
  · have h0 : L.length = 0 := by
      have := h.1
      first
        | exact h2
        | (rw [h2] at this; rw [cells4_len] at this; omega)
    rw [List.eq_nil_of_length_eq_zero h0]
    exact Rd.nil w
  · refine ⟨_, cap, rfl, hl, fun j hj => ⟨g, 0, rfl, ?_⟩⟩
    obtain ⟨c0, c1, c2, c3⟩ := cells4_at L j hj
    have hl4 := cells4_len L
    have e := fun i (hi : i < L.length * 4) => (h'.cellAt i (by omega))
    rw [Nat.zero_add]
    exact ⟨(e _ (by omega)).trans c0, (e _ (by omega)).trans c1, (e _ (by omega)).trans c2, (e _ (by omega)).trans c3⟩
theorem Cls.rd {T : Nat} {w : World} {v : Value} {L : List Cl} (h : Cls T w v L) (hl : L.length ≤ 4398046511103) : Rd w v L := own_rd h hl
theorem own_under {B e z n : Nat} {w w' : World} {v : Value} {xs : List Value} (h : w.ownsRow B e z v n xs) (hb : Below w.heap.size w w') : w'.ownsRow B e z v n xs :=
  World.ownsRow.kept (row := none) h ⟨hb.os, hb.tape, hb.output, hb.size, fun i hi _ => hb.block i hi⟩ (Classical.em _)
theorem own_keep {S : Nat → Prop} {B e z n : Nat} {w w' : World} {v : Value} {xs : List Value} (h : w.ownsRow B e z v n xs) (hk : Keeps S w w') (hn : ∀ b, v.ownBlock = some b → ¬ S b) : w'.ownsRow B e z v n xs := by
  refine ⟨h.1, h.2.imp id ?_⟩
  rintro ⟨g, cap, cur, rfl, hB, hg, hc⟩
  exact ⟨g, cap, cur, rfl, hB, (hk.block g (lt_of_block hg) (hn g rfl)).trans hg, hc⟩
/-- What is appended: m claims, their cells. -/
def Src4 (w : World) (u : Value) (m : Nat) (ys : List Value) : Prop := ∃ p cap, u = .slice p m cap ∧ ys.length = m * 4 ∧ ∀ j y, ys[j]? = some y → ∃ b off, p = some ⟨b, off, none⟩ ∧ w.cell? ⟨b, off + j, none⟩ = some y
theorem src_one (w : World) (s n x : Int) (d : Bool) (t : TypeId) : Src4 (w.alloc (.cells #[.int .i64 s, .int .i64 n, .int .i64 x, .bool d] t)) (.slice (some ⟨w.heap.size, 0, none⟩) 1 1) 1 [.int .i64 s, .int .i64 n, .int .i64 x, .bool d] :=
  ⟨_, _, rfl, rfl, fun j y hy => ⟨_, _, rfl, by
    match j, hy with
    | 0, hy => simp at hy; subst hy; simp
    | 1, hy => simp at hy; subst hy; simp
    | 2, hy => simp at hy; subst hy; simp
    | 3, hy => simp at hy; subst hy; simp⟩⟩
theorem src_two (w : World) (o : Obj) (s n x : Int) (d : Bool) (t : TypeId) : Src4 ((w.alloc o).alloc (.cells #[.int .i64 s, .int .i64 n, .int .i64 x, .bool d] t)) (.slice (some ⟨w.heap.size + 1, 0, none⟩) 1 1) 1 [.int .i64 s, .int .i64 n, .int .i64 x, .bool d] := by
  have h := src_one (w.alloc o) s n x d t
  rwa [World.size_alloc] at h
theorem src_rd {w : World} {v : Value} {L : List Cl} (h : Rd w v L) : Src4 w v L.length (cells4 L) := by
  obtain ⟨p, cap, e, _, hc⟩ := h
  refine ⟨p, cap, e, cells4_len L, fun j y hy => ?_⟩
  have hj : j < L.length * 4 := by have := (List.getElem?_eq_some_iff.1 hy).1; rwa [cells4_len] at this
  have hq : j / 4 < L.length := by omega
  obtain ⟨b, off, e2, c0, c1, c2, c3⟩ := hc (j / 4) hq
  obtain ⟨d0, d1, d2, d3⟩ := cells4_at L (j / 4) hq
  refine ⟨b, off, e2, ?_⟩
  have h4 : j % 4 < 4 := Nat.mod_lt _ (by omega)
  have hm : j = j / 4 * 4 + j % 4 := by omega
  rw [hm] at hy ⊢
  rcases (by omega : j % 4 = 0 ∨ j % 4 = 1 ∨ j % 4 = 2 ∨ j % 4 = 3) with k | k | k | k
  · rw [k] at hy ⊢; rw [Nat.add_zero] at hy ⊢; rw [c0, ← d0, hy]
  · rw [k] at hy ⊢; rw [← Nat.add_assoc, c1, ← d1, hy]
  · rw [k] at hy ⊢; rw [← Nat.add_assoc, c2, ← d2, hy]
  · rw [k] at hy ⊢; rw [← Nat.add_assoc, c3, ← d3, hy]
theorem one_cells (s n x : Int) (d : Bool) : ∀ u ∈ ([.int .i64 s, .int .i64 n, .int .i64 x, .bool d] : List Value), u.oneCell' = true := by
  intro u hu; simp at hu; rcases hu with rfl | rfl | rfl | rfl <;> rfl

theorem run_append_P (w : World) (ty : TypeId) (base : Nat) (v : Value) (n : Nat) (xs : List Value) (hown : w.ownsRow base PT 4 v n xs) (u : Value) (m : Nat) (ys : List Value) (hu : Src4 w u m ys) (h1 : ∀ u ∈ ys, u.oneCell' = true) (hm : n + m ≤ 4398046511104) (hbase : base ≤ w.heap.size) :
    ∃ p cap w', (Builtin.append_ #[33, 33] ty #[v, u]).run Try.prog w = .ok (.slice p (n + m) cap) w' ∧ w'.ownsRow base PT 4 (.slice p (n + m) cap) (n + m) (xs ++ ys) ∧ w.grownBy w' v.ownBlock ∧
      (∀ g, (Value.slice p (n + m) cap).ownBlock = some g → v.ownBlock = some g ∨ w.heap.size ≤ g) := by
  obtain ⟨i0, hi, hz0, hz1, hz2⟩ := info_parts Try.infP
  obtain ⟨p, cap, rfl, hl, hc⟩ := hu
  cases m with
  | zero =>
    obtain rfl : ys = [] := List.eq_nil_of_length_eq_zero (by omega)
    obtain ⟨p', cap', rfl, hle⟩ := own_small hown
    refine ⟨p', cap', w, ?_, by simpa using hown, ⟨rfl, rfl, rfl, Nat.le_refl _, fun _ _ _ => rfl⟩, fun g e => .inl e⟩
    refine run_append_nothing w 33 33 ty PT i0 Try.underlying33 hi p' n cap' hle _ ?_
    cases p with
    | none => exact Src.ofNil w Try.underlying33 cap
    | some a => exact Src.ofSlice w Try.underlying33 a 0 cap [] (by simp) (fun j u hj => by simp at hj) (fun u hu => by simp at hu)
  | succ m =>
    obtain ⟨y, hy⟩ : ∃ y, ys[0]? = some y := ⟨_, List.getElem?_eq_getElem (by omega)⟩
    obtain ⟨b, off, rfl, _⟩ := hc 0 y hy
    obtain ⟨g, cap', w', hr, ho, hg, hat, hlt⟩ := run_append_lies (P := Try.prog) (w := w) 33 ty base PT i0 (.agg #[.int .i64 0, .int .i64 0, .int .i64 0, .bool false]) 4 32 Try.underlying33 hi hz0 hz1 hz2 rfl (by decide) v n xs hown ⟨b, off, none⟩ (m + 1) cap ys hl
      (fun j u hj => by
        obtain ⟨b', off', e, hcell⟩ := hc j u hj
        cases e
        have hadd : (⟨b, off, none⟩ : Addr).add j = ⟨b, off + j, none⟩ := by unfold Addr.add; split <;> simp_all
        rw [hadd]; exact hcell) h1 (by omega) (by unfold maxLen; omega) (by omega) hbase _ rfl
    refine ⟨_, _, w', hr, ho, hg, fun g' e => ?_⟩
    simp [Value.ownBlock] at e
    subst e
    rcases hat with e | e
    · exact .inl e
    · exact .inr (by omega)
theorem wpList_append_P {w : World} {ops : Array Oper} {rest : List Oper} {o : Oper} {a : Act} {Q : Exit → Act → World → Prop} (hgd : o.guard = none) (s x : Operand)
    (ho : o.op = .call { callee := .builtin .append, args := #[s, x], argTypes := #[33, 33] })
    (base : Nat) (v : Value) (n : Nat) (xs : List Value) (hs : a.eval s = v) (hown : w.ownsRow base PT 4 v n xs) (u : Value) (m : Nat) (ys : List Value) (hx : a.eval x = u) (hu : Src4 w u m ys) (h1 : ∀ u ∈ ys, u.oneCell' = true) (hm : n + m ≤ 4398046511104) (hbase : base ≤ w.heap.size)
    (h : ∀ p cap w', w'.ownsRow base PT 4 (.slice p (n + m) cap) (n + m) (xs ++ ys) → w.grownBy w' v.ownBlock → (∀ g, (Value.slice p (n + m) cap).ownBlock = some g → v.ownBlock = some g ∨ w.heap.size ≤ g) → wpList Try.prog ops Q rest (a.put o.dst (.slice p (n + m) cap)) w') : wpList Try.prog ops Q (o :: rest) a w := by
  refine wpList_plain hgd fun K hK => ?_
  obtain ⟨p, cap, w', hr, h2, h3, h4⟩ := run_append_P w o.type base v n xs hown u m ys hu h1 hm hbase
  unfold Oper.wp execOp
  simp only [ho, resolve, invoke, builtin, Sem.run_bind, Sem.run_pure, Result.andThen_ok, List.map_toArray, List.map_cons, List.map_nil, hs, hx, hr]
  exact hK _ _ (h p cap w' h2 h3 h4)

theorem run_append_R (w : World) (ty : TypeId) (base : Nat) (v : Value) (n : Nat) (xs : List Value) (hown : w.ownsRow base RT 4 v n xs) (u : Value) (m : Nat) (ys : List Value) (hu : Src4 w u m ys) (h1 : ∀ u ∈ ys, u.oneCell' = true) (hm : n + m ≤ 4398046511104) (hbase : base ≤ w.heap.size) :
    ∃ p cap w', (Builtin.append_ #[25, 25] ty #[v, u]).run Try.prog w = .ok (.slice p (n + m) cap) w' ∧ w'.ownsRow base RT 4 (.slice p (n + m) cap) (n + m) (xs ++ ys) ∧ w.grownBy w' v.ownBlock ∧
      (∀ g, (Value.slice p (n + m) cap).ownBlock = some g → v.ownBlock = some g ∨ w.heap.size ≤ g) := by
  obtain ⟨i0, hi, hz0, hz1, hz2⟩ := info_parts Try.infR
  obtain ⟨p, cap, rfl, hl, hc⟩ := hu
  cases m with
  | zero =>
    obtain rfl : ys = [] := List.eq_nil_of_length_eq_zero (by omega)
    obtain ⟨p', cap', rfl, hle⟩ := own_small hown
    refine ⟨p', cap', w, ?_, by simpa using hown, ⟨rfl, rfl, rfl, Nat.le_refl _, fun _ _ _ => rfl⟩, fun g e => .inl e⟩
    refine run_append_nothing w 25 25 ty RT i0 Try.underlying25 hi p' n cap' hle _ ?_
    cases p with
    | none => exact Src.ofNil w Try.underlying25 cap
    | some a => exact Src.ofSlice w Try.underlying25 a 0 cap [] (by simp) (fun j u hj => by simp at hj) (fun u hu => by simp at hu)
  | succ m =>
    obtain ⟨y, hy⟩ : ∃ y, ys[0]? = some y := ⟨_, List.getElem?_eq_getElem (by omega)⟩
    obtain ⟨b, off, rfl, _⟩ := hc 0 y hy
    obtain ⟨g, cap', w', hr, ho, hg, hat, hlt⟩ := run_append_lies (P := Try.prog) (w := w) 25 ty base RT i0 (.agg #[.int .i64 0, .int .i64 0, .int .i64 0, .bool false]) 4 32 Try.underlying25 hi hz0 hz1 hz2 rfl (by decide) v n xs hown ⟨b, off, none⟩ (m + 1) cap ys hl
      (fun j u hj => by
        obtain ⟨b', off', e, hcell⟩ := hc j u hj
        cases e
        have hadd : (⟨b, off, none⟩ : Addr).add j = ⟨b, off + j, none⟩ := by unfold Addr.add; split <;> simp_all
        rw [hadd]; exact hcell) h1 (by omega) (by unfold maxLen; omega) (by omega) hbase _ rfl
    refine ⟨_, _, w', hr, ho, hg, fun g' e => ?_⟩
    simp [Value.ownBlock] at e
    subst e
    rcases hat with e | e
    · exact .inl e
    · exact .inr (by omega)
theorem wpList_append_R {w : World} {ops : Array Oper} {rest : List Oper} {o : Oper} {a : Act} {Q : Exit → Act → World → Prop} (hgd : o.guard = none) (s x : Operand)
    (ho : o.op = .call { callee := .builtin .append, args := #[s, x], argTypes := #[25, 25] })
    (base : Nat) (v : Value) (n : Nat) (xs : List Value) (hs : a.eval s = v) (hown : w.ownsRow base RT 4 v n xs) (u : Value) (m : Nat) (ys : List Value) (hx : a.eval x = u) (hu : Src4 w u m ys) (h1 : ∀ u ∈ ys, u.oneCell' = true) (hm : n + m ≤ 4398046511104) (hbase : base ≤ w.heap.size)
    (h : ∀ p cap w', w'.ownsRow base RT 4 (.slice p (n + m) cap) (n + m) (xs ++ ys) → w.grownBy w' v.ownBlock → (∀ g, (Value.slice p (n + m) cap).ownBlock = some g → v.ownBlock = some g ∨ w.heap.size ≤ g) → wpList Try.prog ops Q rest (a.put o.dst (.slice p (n + m) cap)) w') : wpList Try.prog ops Q (o :: rest) a w := by
  refine wpList_plain hgd fun K hK => ?_
  obtain ⟨p, cap, w', hr, h2, h3, h4⟩ := run_append_R w o.type base v n xs hown u m ys hu h1 hm hbase
  unfold Oper.wp execOp
  simp only [ho, resolve, invoke, builtin, Sem.run_bind, Sem.run_pure, Result.andThen_ok, List.map_toArray, List.map_cons, List.map_nil, hs, hx, hr]
  exact hK _ _ (h p cap w' h2 h3 h4)
end Go.Proofs.Ytilbohjkkdkdiaa
