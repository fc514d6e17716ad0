/- Nodes of the document's tree in memory: a row of pairs of numbers, what an append of such makes; nothing of the program is walked; no condition. -/
import Derived.Test.YtlcdbblbepndoaaDoorSKeep
import Derived.Deep.Upon
import Derived.Shelf.Abstract
namespace Go.Proofs.YtlcdbblbepndoaaDoor
open Go.RowKit

abbrev NT : TypeId := 65
theorem Tryd.infNd : (Tryd.prog.info? NT).map (fun i => (i.zero, i.size, i.bytes)) = some (some (.agg #[.int .i64 0, .int .i64 0]), 2, 16) := by kernel_rfl
def cells2 : List (Int × Int) → List Value
  | [] => []
  | e :: r => .int .i64 e.1 :: .int .i64 e.2 :: cells2 r
theorem cells2_append (a b : List (Int × Int)) : cells2 (a ++ b) = cells2 a ++ cells2 b := by
  induction a with
  | nil => rfl
  | cons e r ih => simp [cells2, ih]
theorem cells2_len : ∀ l : List (Int × Int), (cells2 l).length = l.length * 2
  | [] => rfl
  | e :: r => by simp [cells2, cells2_len r]; omega
theorem cells2_take : ∀ (l : List (Int × Int)) (m : Nat), (cells2 l).take (m * 2) = cells2 (l.take m)
  | [], m => by simp [cells2]
  | e :: r, 0 => by simp [cells2]
  | e :: r, m + 1 => by
    have ih := cells2_take r m
    simp only [cells2, List.take_succ_cons, show (m + 1) * 2 = m * 2 + 1 + 1 from by omega, ih]
theorem cells2_at : ∀ (l : List (Int × Int)) (i : Nat) (h : i < l.length), (cells2 l)[i * 2]? = some (.int .i64 l[i].1) ∧ (cells2 l)[i * 2 + 1]? = some (.int .i64 l[i].2)
  | e :: r, 0, _ => by simp [cells2]
  | e :: r, i + 1, h => by
    have ih := cells2_at r i (by simpa using h)
    simp only [cells2, show (i + 1) * 2 = i * 2 + 1 + 1 from by omega, List.getElem?_cons_succ, List.getElem_cons_succ]
    exact ⟨ih.1, ih.2⟩
theorem cells2_set : ∀ (l : List (Int × Int)) (i : Nat) (e : Int × Int), cells2 (l.set i e) = ((cells2 l).set (i * 2) (.int .i64 e.1)).set (i * 2 + 1) (.int .i64 e.2)
  | [], i, e => by simp [cells2]
  | x :: r, 0, e => by simp [cells2]
  | x :: r, i + 1, e => by
    have ih := cells2_set r i e
    simp only [List.set_cons_succ, cells2, ih, show (i + 1) * 2 = i * 2 + 1 + 1 from by omega]
theorem cells2_drop : ∀ (l : List (Int × Int)) (m : Nat), (cells2 l).drop (m * 2) = cells2 (l.drop m)
  | [], m => by simp [cells2]
  | e :: r, 0 => by simp [cells2]
  | e :: r, m + 1 => by
    have ih := cells2_drop r m
    simp only [cells2, List.drop_succ_cons, show (m + 1) * 2 = m * 2 + 1 + 1 from by omega, ih]
theorem cells2_one : ∀ (l : List (Int × Int)), ∀ u ∈ cells2 l, u.oneCell' = true
  | [], u, hu => by simp [cells2] at hu
  | e :: r, u, hu => by
    simp only [cells2, List.mem_cons] at hu
    rcases hu with rfl | rfl | hu
    · rfl
    · rfl
    · exact cells2_one r u hu
/-- A slice of nodes that some call has made. -/
abbrev Nds (w : World) (v : Value) (L : List (Int × Int)) : Prop := w.ownsRow 0 NT 2 v L.length (cells2 L)
theorem own_under {B e z n : Nat} {w w' : World} {v : Value} {xs : List Value} (h : w.ownsRow B e z v n xs) (hb : Below w.heap.size w w') : w'.ownsRow B e z v n xs :=
  World.ownsRow.kept (row := none) h ⟨hb.os, hb.tape, hb.output, hb.size, fun i hi _ => hb.block i hi⟩ (Classical.em _)
theorem own_keep {S : Nat → Prop} {B e z n : Nat} {w w' : World} {v : Value} {xs : List Value} (h : w.ownsRow B e z v n xs) (hk : Keeps S w w') (hn : ∀ b, v.ownBlock = some b → ¬ S b) : w'.ownsRow B e z v n xs := by
  refine ⟨h.1, h.2.imp id ?_⟩
  rintro ⟨g, cap, cur, rfl, hB, hg, hc⟩
  exact ⟨g, cap, cur, rfl, hB, (hk.block g (Array.getElem?_eq_some_iff.1 hg).1 (hn g rfl)).trans hg, hc⟩
theorem own_base2 {B B' e z n : Nat} {w : World} {v : Value} {xs : List Value} (h : w.ownsRow B e z v n xs) (hB : B' ≤ B) : w.ownsRow B' e z v n xs :=
  ⟨h.1, h.2.imp id (fun ⟨g, cap, cur, e, hb, r⟩ => ⟨g, cap, cur, e, Nat.le_trans hB hb, r⟩)⟩
theorem own_block2 {w : World} {B e z n : Nat} {v : Value} {xs : List Value} (h : w.ownsRow B e z v n xs) (hn : 0 < n) : ∃ g cap, v = .slice (some ⟨g, 0, none⟩) n cap ∧ n ≤ cap ∧ B ≤ g ∧ g < w.heap.size := by
  rcases h.2 with ⟨_, h0⟩ | ⟨g, cap, cur, hv, hb, hg, hc, _⟩
  · omega
  · exact ⟨g, cap, hv, hc, hb, (Array.getElem?_eq_some_iff.1 hg).1⟩
theorem Nds.cells {w : World} {L : List (Int × Int)} {g cap : Nat} (h : Nds w (.slice (some ⟨g, 0, none⟩) L.length cap) L) (i : Nat) (hi : i < L.length) : w.cell? ⟨g, i * 2, none⟩ = some (.int .i64 L[i].1) ∧ w.cell? ⟨g, i * 2 + 1, none⟩ = some (.int .i64 L[i].2) := by
  obtain ⟨c0, c1⟩ := cells2_at L i hi
  exact ⟨(h.cellAt _ (by omega)).trans c0, (h.cellAt _ (by omega)).trans c1⟩
theorem own_small {B e z n : Nat} {w : World} {v : Value} {xs : List Value} (h : w.ownsRow B e z v n xs) : ∃ p cap, v = .slice p n cap ∧ n ≤ cap := by
  rcases h.2 with ⟨rfl, h2⟩ | ⟨g, cap, cur, rfl, _, _, hn, _⟩
  · exact ⟨none, 0, by rw [h2], by omega⟩
  · exact ⟨_, _, rfl, hn⟩
/-- What is appended: m items, their cells. -/
def Src2 (w : World) (u : Value) (m : Nat) (ys : List Value) : Prop := ∃ p cap, u = .slice p m cap ∧ ys.length = m * 2 ∧ ∀ j y, ys[j]? = some y → ∃ b off, p = some ⟨b, off, none⟩ ∧ w.cell? ⟨b, off + j, none⟩ = some y
theorem run_append_nds (w : World) (ty : TypeId) (base : Nat) (v : Value) (n : Nat) (xs : List Value) (hown : w.ownsRow base NT 2 v n xs) (u : Value) (m : Nat) (ys : List Value) (hu : Src2 w u m ys) (h1 : ∀ u ∈ ys, u.oneCell' = true) (hm : n + m ≤ 1000000) (hbase : base ≤ w.heap.size) :
    ∃ p cap w', (Builtin.append_ #[29, 29] ty #[v, u]).run Tryd.prog w = .ok (.slice p (n + m) cap) w' ∧ w'.ownsRow base NT 2 (.slice p (n + m) cap) (n + m) (xs ++ ys) ∧ w.grownBy w' v.ownBlock ∧
      (∀ g, (Value.slice p (n + m) cap).ownBlock = some g → v.ownBlock = some g ∨ w.heap.size ≤ g) := by
  obtain ⟨i0, hi, hz0, hz1, hz2⟩ := info_parts Tryd.infNd
  obtain ⟨p, cap, rfl, hl, hc⟩ := hu
  cases m with
  | zero =>
    obtain rfl : ys = [] := List.eq_nil_of_length_eq_zero (by omega)
    obtain ⟨p', cap', rfl, hle⟩ := own_small hown
    refine ⟨p', cap', w, ?_, by simpa using hown, ⟨rfl, rfl, rfl, Nat.le_refl _, fun _ _ _ => rfl⟩, fun g e => .inl e⟩
    refine run_append_nothing w 29 29 ty NT i0 Tryd.underlying29 hi p' n cap' hle _ ?_
    cases p with
    | none => exact Src.ofNil w Tryd.underlying29 cap
    | some a => exact Src.ofSlice w Tryd.underlying29 a 0 cap [] (by simp) (fun j u hj => by simp at hj) (fun u hu => by simp at hu)
  | succ m =>
    obtain ⟨y, hy⟩ : ∃ y, ys[0]? = some y := ⟨_, List.getElem?_eq_getElem (by omega)⟩
    obtain ⟨b, off, rfl, _⟩ := hc 0 y hy
    obtain ⟨g, cap', w', hr, ho, hg, hat, hlt⟩ := run_append_lies (P := Tryd.prog) (w := w) 29 ty base NT i0 (.agg #[.int .i64 0, .int .i64 0]) 2 16 Tryd.underlying29 hi hz0 hz1 hz2 rfl (by decide) v n xs hown ⟨b, off, none⟩ (m + 1) cap ys hl
      (fun j u hj => by
        obtain ⟨b', off', e, hcell⟩ := hc j u hj
        cases e
        have hadd : (⟨b, off, none⟩ : Addr).add j = ⟨b, off + j, none⟩ := by unfold Addr.add; split <;> simp_all
        rw [hadd]; exact hcell) h1 (by omega) (by unfold maxLen; omega) (by omega) hbase _ rfl
    refine ⟨_, _, w', hr, ho, hg, fun g' e => ?_⟩
    simp [Value.ownBlock] at e
    subst e
    rcases hat with e | e
    · exact .inl e
    · exact .inr (by omega)
theorem wpList_append_nds {w : World} {ops : Array Oper} {rest : List Oper} {o : Oper} {a : Act} {Q : Exit → Act → World → Prop} (hgd : o.guard = none) (s x : Operand)
    (ho : o.op = .call { callee := .builtin .append, args := #[s, x], argTypes := #[29, 29] })
    (base : Nat) (v : Value) (n : Nat) (xs : List Value) (hs : a.eval s = v) (hown : w.ownsRow base NT 2 v n xs) (u : Value) (m : Nat) (ys : List Value) (hx : a.eval x = u) (hu : Src2 w u m ys) (h1 : ∀ u ∈ ys, u.oneCell' = true) (hm : n + m ≤ 1000000) (hbase : base ≤ w.heap.size)
    (h : ∀ p cap w', w'.ownsRow base NT 2 (.slice p (n + m) cap) (n + m) (xs ++ ys) → w.grownBy w' v.ownBlock → (∀ g, (Value.slice p (n + m) cap).ownBlock = some g → v.ownBlock = some g ∨ w.heap.size ≤ g) → wpList Tryd.prog ops Q rest (a.put o.dst (.slice p (n + m) cap)) w') : wpList Tryd.prog ops Q (o :: rest) a w := by
  refine wpList_plain hgd fun K hK => ?_
  obtain ⟨p, cap, w', hr, h2, h3, h4⟩ := run_append_nds w o.type base v n xs hown u m ys hu h1 hm hbase
  unfold Oper.wp execOp
  simp only [ho, resolve, invoke, builtin, Sem.run_bind, Sem.run_pure, Result.andThen_ok, List.map_toArray, List.map_cons, List.map_nil, hs, hx, hr]
  exact hK _ _ (h p cap w' h2 h3 h4)

/-- The parts of a row of items. -/
theorem src_head {w w1 : World} {L : List (Int × Int)} {g cap : Nat} (h : Nds w (.slice (some ⟨g, 0, none⟩) L.length cap) L) (hb : Below w.heap.size w w1) (k : Nat) (hk : k ≤ L.length) : Src2 w1 (.slice (some ⟨g, 0, none⟩) k cap) k (cells2 (L.take k)) := by
  refine ⟨_, _, rfl, by rw [cells2_len, List.length_take, Nat.min_eq_left hk], fun j y hy => ⟨g, 0, rfl, ?_⟩⟩
  have hg := (h.lt g rfl).2
  have hj : j < k * 2 := by have := (List.getElem?_eq_some_iff.1 hy).1; rw [cells2_len, List.length_take, Nat.min_eq_left hk] at this; exact this
  rw [← cells2_take, List.getElem?_take, if_pos hj] at hy
  rw [Nat.zero_add]
  exact (hb.cell (p := ⟨g, j, none⟩) hg).trans ((h.cellAt j (by omega)).trans hy)
theorem src_tail {w w1 : World} {L : List (Int × Int)} {g cap : Nat} (h : Nds w (.slice (some ⟨g, 0, none⟩) L.length cap) L) (hb : Below w.heap.size w w1) (k : Nat) (hk : k ≤ L.length) : Src2 w1 (.slice (some ⟨g, k * 2, none⟩) (L.length - k) (cap - k)) (L.length - k) (cells2 (L.drop k)) := by
  refine ⟨_, _, rfl, by rw [cells2_len, List.length_drop], fun j y hy => ⟨g, k * 2, rfl, ?_⟩⟩
  have hg := (h.lt g rfl).2
  have hj : j < (L.length - k) * 2 := by have := (List.getElem?_eq_some_iff.1 hy).1; rw [cells2_len, List.length_drop] at this; exact this
  rw [← cells2_drop, List.getElem?_drop] at hy
  exact (hb.cell (p := ⟨g, k * 2 + j, none⟩) hg).trans ((h.cellAt (k * 2 + j) (by omega)).trans hy)
theorem src_tail_if {w w1 : World} {L : List (Int × Int)} {g cap : Nat} (h : Nds w (.slice (some ⟨g, 0, none⟩) L.length cap) L) (hn : L.length ≤ cap) (hb : Below w.heap.size w w1) (k : Nat) (hk : k ≤ L.length) : Src2 w1 (.slice (if cap = k then (some ⟨g, 0, none⟩ : Option Addr) else some ⟨g, k * 2, none⟩) (L.length - k) (cap - k)) (L.length - k) (cells2 (L.drop k)) := by
  by_cases e : cap = k
  · rw [if_pos e, show L.length - k = 0 by omega, List.drop_of_length_le (by omega)]
    exact ⟨_, _, rfl, rfl, fun j y hy => by simp [cells2] at hy⟩
  · rw [if_neg e]; exact src_tail h hb k hk
theorem src_none (w1 : World) (p : Option Addr) (c : Nat) : Src2 w1 (.slice p 0 c) 0 [] := ⟨p, c, rfl, rfl, fun j y hy => by simp at hy⟩
theorem src_one (w : World) (x : Int × Int) (t : TypeId) : Src2 (w.alloc (.cells #[.int .i64 x.1, .int .i64 x.2] t)) (.slice (some ⟨w.heap.size, 0, none⟩) 1 1) 1 [.int .i64 x.1, .int .i64 x.2] :=
  ⟨_, _, rfl, rfl, fun j y hy => ⟨_, _, rfl, by
    match j, hy with
    | 0, hy => simp at hy; subst hy; simp
    | 1, hy => simp at hy; subst hy; simp⟩⟩

end Go.Proofs.YtlcdbblbepndoaaDoor
