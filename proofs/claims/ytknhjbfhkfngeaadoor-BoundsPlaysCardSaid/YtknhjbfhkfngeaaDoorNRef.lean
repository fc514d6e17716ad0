/- The document's own calendar: Find, Drop; what an append of items makes; no condition but those that each row names. -/
import Derived.Test.YtknhjbfhkfngeaaDoorNPair
import Derived.Deep.AppendLies
import Derived.Deep.Upon
import Derived.Shelf.Abstract
namespace Go.Proofs.YtknhjbfhkfngeaaDoor
open Go.RowKit Cal

abbrev RT : TypeId := 45
/-- A slice of items that some call has made. -/
abbrev Its (w : World) (v : Value) (L : List Pr) : Prop := w.ownsRow 0 RT 2 v L.length (prL L)
theorem Tryd.infRt : (Tryd.prog.info? RT).map (fun i => (i.zero, i.size, i.bytes)) = some (some (.agg #[.int .i64 0, .int .i64 0]), 2, 16) := by kernel_rfl
theorem Its.below {w w' : World} {v : Value} {L : List Pr} (h : Its w v L) (hb : Below w.heap.size w w') : Its w' v L := own_under h hb
theorem Its.cells {w : World} {L : List Pr} {g cap : Nat} (h : Its w (.slice (some ⟨g, 0, none⟩) L.length cap) L) (i : Nat) (hi : i < L.length) : w.cell? ⟨g, i * 2, none⟩ = some (.int .i64 L[i].1) ∧ w.cell? ⟨g, i * 2 + 1, none⟩ = some (.int .i64 L[i].2) := by
  obtain ⟨c0, c1⟩ := prL_at L i hi
  exact ⟨(World.ownsRow.cellAt h _ (by omega)).trans c0, (World.ownsRow.cellAt h _ (by omega)).trans c1⟩
/-- What is appended: m items, their cells. -/
def SrcP (w : World) (u : Value) (m : Nat) (ys : List Value) : Prop := ∃ p cap, u = .slice p m cap ∧ ys.length = m * 2 ∧ ∀ j y, ys[j]? = some y → ∃ b off, p = some ⟨b, off, none⟩ ∧ w.cell? ⟨b, off + j, none⟩ = some y
theorem run_append_its (w : World) (ty : TypeId) (base : Nat) (v : Value) (n : Nat) (xs : List Value) (hown : w.ownsRow base RT 2 v n xs) (u : Value) (m : Nat) (ys : List Value) (hu : SrcP w u m ys) (h1 : ∀ u ∈ ys, u.oneCell' = true) (hm : n + m ≤ 1000000) (hbase : base ≤ w.heap.size) :
    ∃ p cap w', (Builtin.append_ #[25, 25] ty #[v, u]).run Tryd.prog w = .ok (.slice p (n + m) cap) w' ∧ w'.ownsRow base RT 2 (.slice p (n + m) cap) (n + m) (xs ++ ys) ∧ w.grownBy w' v.ownBlock ∧
      (∀ g, (Value.slice p (n + m) cap).ownBlock = some g → v.ownBlock = some g ∨ w.heap.size ≤ g) := by
  obtain ⟨i0, hi, hz0, hz1, hz2⟩ := info_parts Tryd.infRt
  obtain ⟨p, cap, rfl, hl, hc⟩ := hu
  cases m with
  | zero =>
    obtain rfl : ys = [] := List.eq_nil_of_length_eq_zero (by omega)
    obtain ⟨p', cap', rfl, hle⟩ := own_small hown
    refine ⟨p', cap', w, ?_, by simpa using hown, ⟨rfl, rfl, rfl, Nat.le_refl _, fun _ _ _ => rfl⟩, fun g e => .inl e⟩
    refine run_append_nothing w 25 25 ty RT i0 Tryd.underlying25 hi p' n cap' hle _ ?_
    cases p with
    | none => exact Src.ofNil w Tryd.underlying25 cap
    | some a => exact Src.ofSlice w Tryd.underlying25 a 0 cap [] (by simp) (fun j u hj => by simp at hj) (fun u hu => by simp at hu)
  | succ m =>
    obtain ⟨y, hy⟩ : ∃ y, ys[0]? = some y := ⟨_, List.getElem?_eq_getElem (by omega)⟩
    obtain ⟨b, off, rfl, _⟩ := hc 0 y hy
    obtain ⟨g, cap', w', hr, ho, hg, hat, hlt⟩ := run_append_lies (P := Tryd.prog) (w := w) 25 ty base RT i0 (.agg #[.int .i64 0, .int .i64 0]) 2 16 Tryd.underlying25 hi hz0 hz1 hz2 rfl (by decide) v n xs hown ⟨b, off, none⟩ (m + 1) cap ys hl
      (fun j u hj => by
        obtain ⟨b', off', e, hcell⟩ := hc j u hj
        cases e
        have hadd : (⟨b, off, none⟩ : Addr).add j = ⟨b, off + j, none⟩ := by unfold Addr.add; split <;> simp_all
        rw [hadd]; exact hcell) h1 (by omega) (by unfold maxLen; omega) (by omega) hbase _ rfl
    refine ⟨_, _, w', hr, ho, hg, fun g' e => ?_⟩
    simp [Value.ownBlock] at e
    subst e
    rcases hat with e | e
    · exact .inl e
    · exact .inr (by omega)
theorem wpList_append_its {w : World} {ops : Array Oper} {rest : List Oper} {o : Oper} {a : Act} {Q : Exit → Act → World → Prop} (hgd : o.guard = none) (s x : Operand)
    (ho : o.op = .call { callee := .builtin .append, args := #[s, x], argTypes := #[25, 25] })
    (base : Nat) (v : Value) (n : Nat) (xs : List Value) (hs : a.eval s = v) (hown : w.ownsRow base RT 2 v n xs) (u : Value) (m : Nat) (ys : List Value) (hx : a.eval x = u) (hu : SrcP w u m ys) (h1 : ∀ u ∈ ys, u.oneCell' = true) (hm : n + m ≤ 1000000) (hbase : base ≤ w.heap.size)
    (h : ∀ p cap w', w'.ownsRow base RT 2 (.slice p (n + m) cap) (n + m) (xs ++ ys) → w.grownBy w' v.ownBlock → (∀ g, (Value.slice p (n + m) cap).ownBlock = some g → v.ownBlock = some g ∨ w.heap.size ≤ g) → wpList Tryd.prog ops Q rest (a.put o.dst (.slice p (n + m) cap)) w') : wpList Tryd.prog ops Q (o :: rest) a w := by
  refine wpList_plain hgd fun K hK => ?_
  obtain ⟨p, cap, w', hr, h2, h3, h4⟩ := run_append_its w o.type base v n xs hown u m ys hu h1 hm hbase
  unfold Oper.wp execOp
  simp only [ho, resolve, invoke, builtin, Sem.run_bind, Sem.run_pure, Result.andThen_ok, List.map_toArray, List.map_cons, List.map_nil, hs, hx, hr]
  exact hK _ _ (h p cap w' h2 h3 h4)
/-- The parts of a row of items. -/
theorem src_head {w w1 : World} {L : List Pr} {g cap : Nat} (h : Its w (.slice (some ⟨g, 0, none⟩) L.length cap) L) (hb : Below w.heap.size w w1) (k : Nat) (hk : k ≤ L.length) (cc : Nat) : SrcP w1 (.slice (some ⟨g, 0, none⟩) k cc) k (prL (L.take k)) := by
  refine ⟨_, _, rfl, by rw [prL_len, List.length_take, Nat.min_eq_left hk], fun j y hy => ⟨g, 0, rfl, ?_⟩⟩
  have hg := (World.ownsRow.lt h g rfl).2
  have hj : j < k * 2 := by have := (List.getElem?_eq_some_iff.1 hy).1; rw [prL_len, List.length_take, Nat.min_eq_left hk] at this; exact this
  rw [← prL_take, List.getElem?_take, if_pos hj] at hy
  rw [Nat.zero_add]
  exact (hb.cell (p := ⟨g, j, none⟩) hg).trans ((World.ownsRow.cellAt h j (by omega)).trans hy)
theorem src_tail {w w1 : World} {L : List Pr} {g cap : Nat} (h : Its w (.slice (some ⟨g, 0, none⟩) L.length cap) L) (hb : Below w.heap.size w w1) (k : Nat) (hk : k ≤ L.length) (cc : Nat) : SrcP w1 (.slice (some ⟨g, k * 2, none⟩) (L.length - k) cc) (L.length - k) (prL (L.drop k)) := by
  refine ⟨_, _, rfl, by rw [prL_len, List.length_drop], fun j y hy => ⟨g, k * 2, rfl, ?_⟩⟩
  have hg := (World.ownsRow.lt h g rfl).2
  have hj : j < (L.length - k) * 2 := by have := (List.getElem?_eq_some_iff.1 hy).1; rw [prL_len, List.length_drop] at this; exact this
  rw [← prL_drop, List.getElem?_drop] at hy
  exact (hb.cell (p := ⟨g, k * 2 + j, none⟩) hg).trans ((World.ownsRow.cellAt h (k * 2 + j) (by omega)).trans hy)
theorem src_tail_if {w w1 : World} {L : List Pr} {g cap : Nat} (h : Its w (.slice (some ⟨g, 0, none⟩) L.length cap) L) (hn : L.length ≤ cap) (hb : Below w.heap.size w w1) (k : Nat) (hk : k ≤ L.length) : SrcP w1 (.slice (if cap = k then (some ⟨g, 0, none⟩ : Option Addr) else some ⟨g, k * 2, none⟩) (L.length - k) (cap - k)) (L.length - k) (prL (L.drop k)) := by
  by_cases e : cap = k
  · rw [if_pos e, show L.length - k = 0 by omega, List.drop_of_length_le (by omega)]
    exact ⟨_, _, rfl, rfl, fun j y hy => by simp [prL] at hy⟩
  · rw [if_neg e]; exact src_tail h hb k hk _
theorem src_none (w1 : World) (p : Option Addr) (c : Nat) : SrcP w1 (.slice p 0 c) 0 [] := ⟨p, c, rfl, rfl, fun j y hy => by simp at hy⟩
theorem src_pair (w : World) (x : Pr) (t : TypeId) : SrcP (w.alloc (.cells #[.int .i64 x.1, .int .i64 x.2] t)) (.slice (some ⟨w.heap.size, 0, none⟩) 1 1) 1 [.int .i64 x.1, .int .i64 x.2] := by
  refine ⟨_, _, rfl, rfl, fun j y hy => ⟨w.heap.size, 0, rfl, ?_⟩⟩
  rw [Nat.zero_add, has_cell (has_new w (.cells #[.int .i64 x.1, .int .i64 x.2] t) _ rfl)]
  simpa using hy
/-- A place as a number: -1 is nowhere. -/
def optP : Option Nat → Int
  | none => -1
  | some i => (i : Nat)
set_option maxHeartbeats 1000000 in
theorem rfind_any (w : World) (v : Value) (L : List Pr) (h : Its w v L) (h4 : L.length ≤ 4096) (id : Int) :
    Calls Tryd.prog 15 #[v, .int .i64 id] w fun e w' => e = .returned (.int .i64 (optP (findI id L))) ∧ w = w' := by
  obtain ⟨p, cap, rfl, _⟩ := own_small h
  have HC := Lib.hid (show ∀ j (hj : j < L.length), ∃ g, p = some ⟨g, 0, none⟩ ∧ w.cell? ⟨g, j * 2, none⟩ = some (.int .i64 L[j].1) from fun j hj => by
    obtain ⟨g, cap', e, _, _⟩ := own_block2 h (by omega)
    cases e
    exact ⟨g, rfl, (h.cells j hj).1⟩)
  cases hf : findI id L with
  | some i =>
    obtain ⟨hil, hid, hno⟩ := findI_some hf
    have HN := Lib.hid hno
    have HI := Lib.hid hid
    clear h hno hid hf
    go_enter Tryd.func15, Tryd.ntmps15
    go_wp2_with fail
    go_loop [5] (fun iv => ∃ k : Nat, iv = .int .i64 k ∧ k ≤ i) (fun iv => L.length - (intOf iv).toNat)
    case atStart => exact ⟨0, rfl, Nat.zero_le _⟩
    case round =>
      obtain ⟨k, rfl, hk⟩ := hrel
      have hkl : k < L.length := by omega
      have hkl' : (k : Int) < (L.length : Int) := by omega
      obtain ⟨g, rfl, c0⟩ := HC.out k hkl
      by_cases e : k = i
      · subst e
        rw [HI.out] at c0
        go_wp2_with fail
        go_ret
        exact ⟨rfl, rfl⟩
      · have hne := HN.out k hkl (by omega)
        generalize L[k].1 = y at c0 hne
        have hz : (y == id) = false := by simpa using hne
        go_wp2_with fail
        go_round
        case rel => exact ⟨k + 1, by go_num, by omega⟩
        case measure => simp [intOf]; omega
  | none =>
    have HN := Lib.hid (findI_none hf)
    clear h hf
    go_enter Tryd.func15, Tryd.ntmps15
    go_wp2_with fail
    go_loop [5] (fun iv => ∃ k : Nat, iv = .int .i64 k ∧ k ≤ L.length) (fun iv => L.length - (intOf iv).toNat)
    case atStart => exact ⟨0, rfl, Nat.zero_le _⟩
    case round =>
      obtain ⟨k, rfl, hk⟩ := hrel
      by_cases hkl : k < L.length
      · have hkl' : (k : Int) < (L.length : Int) := by omega
        obtain ⟨g, rfl, c0⟩ := HC.out k hkl
        have hne := HN.out _ (List.getElem_mem hkl)
        generalize L[k].1 = y at c0 hne
        have hz : (y == id) = false := by simpa using hne
        go_wp2_with fail
        go_round
        case rel => exact ⟨k + 1, by go_num, by omega⟩
        case measure => simp [intOf]; omega
      · have hg3 : decide (k < L.length) = false := decide_eq_false hkl
        go_wp2_with fail
        go_ret
        exact ⟨rfl, rfl⟩
end Go.Proofs.YtknhjbfhkfngeaaDoor
