/- The document's own book as a row of lines of fourteen numbers, what an append of lines makes, the place of a handle; no condition but those that each row names. -/
import Derived.Test.YtdbfjcdglcagaaaDoorPMath
import Derived.Deep.AppendLies
import Derived.Deep.Upon
import Derived.Shelf.Abstract
namespace Go.Proofs.YtdbfjcdglcagaaaDoor
open Go.RowKit Bk

abbrev LT : TypeId := 61
abbrev BT : TypeId := 28
/-- The cells of lines. -/
def c14 (x : Ln) : List Value := [.int .i64 x.h, .int .i64 x.p, .int .i64 x.a.g, .int .i64 x.a.o, .int .i64 x.a.l, .int .i64 x.a.d, .int .i64 x.a.c, .int .i64 x.a.t, .int .i64 x.c.g, .int .i64 x.c.o, .int .i64 x.c.l, .int .i64 x.c.d, .int .i64 x.c.c, .int .i64 x.c.t]
def lnL (L : List Ln) : List Value := L.flatMap c14
theorem lnL_len : ∀ L : List Ln, (lnL L).length = L.length * 14
  | [] => rfl
  | x :: r => by
    have := lnL_len r
    unfold lnL at this ⊢
    rw [List.flatMap_cons, List.length_append, this]
    simp [c14]; omega
theorem lnL_append (A B : List Ln) : lnL (A ++ B) = lnL A ++ lnL B := by simp [lnL]
theorem lnL_one (L : List Ln) : ∀ u ∈ lnL L, u.oneCell' = true := by
  intro u hu
  unfold lnL at hu
  obtain ⟨x, _, hx⟩ := List.mem_flatMap.1 hu
  simp only [c14, List.mem_cons, List.not_mem_nil, or_false] at hx
  rcases hx with rfl | rfl | rfl | rfl | rfl | rfl | rfl | rfl | rfl | rfl | rfl | rfl | rfl | rfl <;> rfl
theorem lnL_at : ∀ (L : List Ln) (i : Nat) (h : i < L.length) (r : Nat), r < 14 → (lnL L)[i * 14 + r]? = (c14 L[i])[r]?
  | [], i, h, _, _ => by simp at h
  | x :: s, 0, _, r, hr => by
    have e : lnL (x :: s) = c14 x ++ lnL s := rfl
    rw [e, Nat.zero_mul, Nat.zero_add, List.getElem?_append_left (by simpa [c14] using hr)]
    rfl
  | x :: s, i + 1, h, r, hr => by
    have e : lnL (x :: s) = c14 x ++ lnL s := rfl
    have ih := lnL_at s i (by simpa using h) r hr
    have hl : (c14 x).length = 14 := rfl
    rw [e, List.getElem?_append_right (by rw [hl]; omega), hl, show (i + 1) * 14 + r - 14 = i * 14 + r by omega, ih]
    rfl
theorem lnL_set1 : ∀ (L : List Ln) (i : Nat) (h : i < L.length) (r : Nat), r < 14 → ∀ (v : Value) (x : Ln), c14 x = (c14 L[i]).set r v → (lnL L).set (i * 14 + r) v = lnL (L.set i x)
  | [], i, h, _, _, _, _, _ => by simp at h
  | y :: s, 0, _, r, hr, v, x, e => by
    have e1 : lnL (y :: s) = c14 y ++ lnL s := rfl
    have e2 : lnL ((y :: s).set 0 x) = c14 x ++ lnL s := rfl
    rw [e1, e2, Nat.zero_mul, Nat.zero_add, List.set_append_left _ _ (by simpa [c14] using hr), e]
    rfl
  | y :: s, i + 1, h, r, hr, v, x, e => by
    have e1 : lnL (y :: s) = c14 y ++ lnL s := rfl
    have e2 : lnL ((y :: s).set (i + 1) x) = c14 y ++ lnL (s.set i x) := rfl
    have hl : (c14 y).length = 14 := rfl
    have ih := lnL_set1 s i (by simpa using h) r hr v x e
    rw [e1, e2, List.set_append_right _ _ (by rw [hl]; omega), hl, show (i + 1) * 14 + r - 14 = i * 14 + r by omega, ih]
/-- A book that some call has made. -/
abbrev Lns (w : World) (v : Value) (L : List Ln) : Prop := w.ownsRow 0 LT 14 v L.length (lnL L)
theorem Tryd.infLn : (Tryd.prog.info? LT).map (fun i => (i.zero, i.size, i.bytes)) = some (some (.agg #[.int .i64 0, .int .i64 0, .int .i64 0, .int .i64 0, .int .i64 0, .int .i64 0, .int .i64 0, .int .i64 0, .int .i64 0, .int .i64 0, .int .i64 0, .int .i64 0, .int .i64 0, .int .i64 0]), 14, 112) := by kernel_rfl
theorem Lns.below {w w' : World} {v : Value} {L : List Ln} (h : Lns w v L) (hb : Below w.heap.size w w') : Lns w' v L := own_under h hb
theorem own_at14 {B : Nat} {w : World} {L : List Ln} {g n cap : Nat} (h : w.ownsRow B LT 14 (.slice (some ⟨g, 0, none⟩) n cap) n (lnL L)) (hn : n = L.length) (i : Nat) (hi : i < L.length) : w.cell? ⟨g, i * 14, none⟩ = some (.int .i64 L[i].h) ∧ w.cell? ⟨g, i * 14 + 1, none⟩ = some (.int .i64 L[i].p) ∧ w.cell? ⟨g, i * 14 + 2, none⟩ = some (.int .i64 L[i].a.g) ∧ w.cell? ⟨g, i * 14 + 3, none⟩ = some (.int .i64 L[i].a.o) ∧ w.cell? ⟨g, i * 14 + 4, none⟩ = some (.int .i64 L[i].a.l) ∧ w.cell? ⟨g, i * 14 + 5, none⟩ = some (.int .i64 L[i].a.d) ∧ w.cell? ⟨g, i * 14 + 6, none⟩ = some (.int .i64 L[i].a.c) ∧ w.cell? ⟨g, i * 14 + 7, none⟩ = some (.int .i64 L[i].a.t) ∧ w.cell? ⟨g, i * 14 + 8, none⟩ = some (.int .i64 L[i].c.g) ∧ w.cell? ⟨g, i * 14 + 9, none⟩ = some (.int .i64 L[i].c.o) ∧ w.cell? ⟨g, i * 14 + 10, none⟩ = some (.int .i64 L[i].c.l) ∧ w.cell? ⟨g, i * 14 + 11, none⟩ = some (.int .i64 L[i].c.d) ∧ w.cell? ⟨g, i * 14 + 12, none⟩ = some (.int .i64 L[i].c.c) ∧ w.cell? ⟨g, i * 14 + 13, none⟩ = some (.int .i64 L[i].c.t) := by
  subst hn
  have hc : ∀ r, r < 14 → w.cell? ⟨g, i * 14 + r, none⟩ = (c14 L[i])[r]? := fun r hr => (World.ownsRow.cellAt h _ (by omega)).trans (lnL_at L i hi r hr)
  exact ⟨hc 0 (by omega), hc 1 (by omega), hc 2 (by omega), hc 3 (by omega), hc 4 (by omega), hc 5 (by omega), hc 6 (by omega), hc 7 (by omega), hc 8 (by omega), hc 9 (by omega), hc 10 (by omega), hc 11 (by omega), hc 12 (by omega), hc 13 (by omega)⟩
/-- What is appended: m lines, their cells. -/
def SrcL (w : World) (u : Value) (m : Nat) (ys : List Value) : Prop := ∃ p cap, u = .slice p m cap ∧ ys.length = m * 14 ∧ ∀ j y, ys[j]? = some y → ∃ b off, p = some ⟨b, off, none⟩ ∧ w.cell? ⟨b, off + j, none⟩ = some y
theorem run_append_lns (w : World) (ty : TypeId) (base : Nat) (v : Value) (n : Nat) (xs : List Value) (hown : w.ownsRow base LT 14 v n xs) (u : Value) (m : Nat) (ys : List Value) (hu : SrcL w u m ys) (h1 : ∀ u ∈ ys, u.oneCell' = true) (hm : n + m ≤ 1000000) (hbase : base ≤ w.heap.size) :
    ∃ p cap w', (Builtin.append_ #[BT, BT] ty #[v, u]).run Tryd.prog w = .ok (.slice p (n + m) cap) w' ∧ w'.ownsRow base LT 14 (.slice p (n + m) cap) (n + m) (xs ++ ys) ∧ w.grownBy w' v.ownBlock ∧
      (∀ g, (Value.slice p (n + m) cap).ownBlock = some g → v.ownBlock = some g ∨ w.heap.size ≤ g) := by
  obtain ⟨i0, hi, hz0, hz1, hz2⟩ := info_parts Tryd.infLn
  obtain ⟨p, cap, rfl, hl, hc⟩ := hu
  cases m with
  | zero =>
    obtain rfl : ys = [] := List.eq_nil_of_length_eq_zero (by omega)
    obtain ⟨p', cap', rfl, hle⟩ := own_small hown
    refine ⟨p', cap', w, ?_, by simpa using hown, ⟨rfl, rfl, rfl, Nat.le_refl _, fun _ _ _ => rfl⟩, fun g e => .inl e⟩
    refine run_append_nothing w BT BT ty LT i0 Tryd.underlying28 hi p' n cap' hle _ ?_
    cases p with
    | none => exact Src.ofNil w Tryd.underlying28 cap
    | some a => exact Src.ofSlice w Tryd.underlying28 a 0 cap [] (by simp) (fun j u hj => by simp at hj) (fun u hu => by simp at hu)
  | succ m =>
    obtain ⟨y, hy⟩ : ∃ y, ys[0]? = some y := ⟨_, List.getElem?_eq_getElem (by omega)⟩
    obtain ⟨b, off, rfl, _⟩ := hc 0 y hy
    obtain ⟨g, cap', w', hr, ho, hg, hat, hlt⟩ := run_append_lies (P := Tryd.prog) (w := w) BT ty base LT i0 (.agg #[.int .i64 0, .int .i64 0, .int .i64 0, .int .i64 0, .int .i64 0, .int .i64 0, .int .i64 0, .int .i64 0, .int .i64 0, .int .i64 0, .int .i64 0, .int .i64 0, .int .i64 0, .int .i64 0]) 14 112 Tryd.underlying28 hi hz0 hz1 hz2 rfl (by decide) v n xs hown ⟨b, off, none⟩ (m + 1) cap ys hl
      (fun j u hj => by
        obtain ⟨b', off', e, hcell⟩ := hc j u hj
        cases e
        have hadd : (⟨b, off, none⟩ : Addr).add j = ⟨b, off + j, none⟩ := by unfold Addr.add; split <;> simp_all
        rw [hadd]; exact hcell) h1 (by omega) (by unfold maxLen; omega) (by omega) hbase _ rfl
    refine ⟨_, _, w', hr, ho, hg, fun g' e => ?_⟩
    simp [Value.ownBlock] at e
    subst e
    rcases hat with e | e
    · exact .inl e
    · exact .inr (by omega)
theorem wpList_append_lns {w : World} {ops : Array Oper} {rest : List Oper} {o : Oper} {a : Act} {Q : Exit → Act → World → Prop} (hgd : o.guard = none) (s x : Operand)
    (ho : o.op = .call { callee := .builtin .append, args := #[s, x], argTypes := #[BT, BT] })
    (base : Nat) (v : Value) (n : Nat) (xs : List Value) (hs : a.eval s = v) (hown : w.ownsRow base LT 14 v n xs) (u : Value) (m : Nat) (ys : List Value) (hx : a.eval x = u) (hu : SrcL w u m ys) (h1 : ∀ u ∈ ys, u.oneCell' = true) (hm : n + m ≤ 1000000) (hbase : base ≤ w.heap.size)
    (h : ∀ p cap w', w'.ownsRow base LT 14 (.slice p (n + m) cap) (n + m) (xs ++ ys) → w.grownBy w' v.ownBlock → (∀ g, (Value.slice p (n + m) cap).ownBlock = some g → v.ownBlock = some g ∨ w.heap.size ≤ g) → wpList Tryd.prog ops Q rest (a.put o.dst (.slice p (n + m) cap)) w') : wpList Tryd.prog ops Q (o :: rest) a w := by
  refine wpList_plain hgd fun K hK => ?_
  obtain ⟨p, cap, w', hr, h2, h3, h4⟩ := run_append_lns w o.type base v n xs hown u m ys hu h1 hm hbase
  unfold Oper.wp execOp
  simp only [ho, resolve, invoke, builtin, Sem.run_bind, Sem.run_pure, Result.andThen_ok, List.map_toArray, List.map_cons, List.map_nil, hs, hx, hr]
  exact hK _ _ (h p cap w' h2 h3 h4)
/-- The parts of a row of items. -/

theorem src_lns {w : World} {v : Value} {L : List Ln} (h : Lns w v L) : SrcL w v L.length (lnL L) := by
  obtain ⟨p, cap, rfl, _⟩ := own_small h
  refine ⟨p, cap, rfl, lnL_len L, fun j y hy => ?_⟩
  have hj : j < L.length * 14 := by have := (List.getElem?_eq_some_iff.1 hy).1; rwa [lnL_len] at this
  obtain ⟨g, cap', e, _, _⟩ := own_block2 h (by omega)
  cases e
  exact ⟨g, 0, rfl, by rw [Nat.zero_add, World.ownsRow.cellAt h j hj]; exact hy⟩
/-- One line that lies in a block of its own. -/
theorem src_one14 (w : World) (x : Ln) (t : TypeId) : SrcL (w.alloc (.cells #[.int .i64 x.h, .int .i64 x.p, .int .i64 x.a.g, .int .i64 x.a.o, .int .i64 x.a.l, .int .i64 x.a.d, .int .i64 x.a.c, .int .i64 x.a.t, .int .i64 x.c.g, .int .i64 x.c.o, .int .i64 x.c.l, .int .i64 x.c.d, .int .i64 x.c.c, .int .i64 x.c.t] t)) (.slice (some ⟨w.heap.size, 0, none⟩) 1 1) 1 (c14 x) := by
  refine ⟨_, _, rfl, rfl, fun i y hy => ⟨w.heap.size, 0, rfl, ?_⟩⟩
  rw [Nat.zero_add, has_cell (has_new w (.cells #[.int .i64 x.h, .int .i64 x.p, .int .i64 x.a.g, .int .i64 x.a.o, .int .i64 x.a.l, .int .i64 x.a.d, .int .i64 x.a.c, .int .i64 x.a.t, .int .i64 x.c.g, .int .i64 x.c.o, .int .i64 x.c.l, .int .i64 x.c.d, .int .i64 x.c.c, .int .i64 x.c.t] t) _ rfl)]
  simpa [c14] using hy

def optP : Option Nat → Int
  | none => -1
  | some i => (i : Nat)
set_option maxHeartbeats 1000000 in
theorem rplace (w : World) (v : Value) (L : List Ln) (h : Lns w v L) (h4 : L.length ≤ 4096) (id : Int) :
    Calls Tryd.prog 30 #[v, .int .i64 id] w fun e w' => e = .returned (.int .i64 (optP (plc L id))) ∧ w = w' := by
  obtain ⟨p, cap, rfl, _⟩ := own_small h
  have HC := Lib.hid (show ∀ j (hj : j < L.length), ∃ g, p = some ⟨g, 0, none⟩ ∧ w.cell? ⟨g, j * 14, none⟩ = some (.int .i64 L[j].h) from fun j hj => by
    obtain ⟨g, cap', e, _, _⟩ := own_block2 h (by omega)
    cases e
    exact ⟨g, rfl, (own_at14 h rfl j hj).1⟩)
  cases hf : plc L id with
  | some i =>
    obtain ⟨hil, hid, _, hno⟩ := plc_some hf
    have HN := Lib.hid hno
    have HI := Lib.hid hid
    clear h hno hid hf
    go_enter Tryd.func30, Tryd.ntmps30
    go_wp2_with fail
    go_loop [5] (fun iv => ∃ k : Nat, iv = .int .i64 k ∧ k ≤ i) (fun iv => L.length - (intOf iv).toNat)
    case atStart => exact ⟨0, rfl, Nat.zero_le _⟩
    case round =>
      obtain ⟨k, rfl, hk⟩ := hrel
      have hkl : k < L.length := by omega
      have hkl' : (k : Int) < (L.length : Int) := by omega
      obtain ⟨g, rfl, c0⟩ := HC.out k hkl
      by_cases e : k = i
      · subst e
        rw [HI.out] at c0
        go_wp2_with fail
        go_ret
        exact ⟨rfl, rfl⟩
      · have hne := HN.out k hkl (by omega)
        generalize L[k].h = y at c0 hne
        have hz : (y == id) = false := by simpa using hne
        go_wp2_with fail
        go_round
        case rel => exact ⟨k + 1, by go_num, by omega⟩
        case measure => simp [intOf]; omega
  | none =>
    have HN := Lib.hid (plc_none hf).2
    clear h hf
    go_enter Tryd.func30, Tryd.ntmps30
    go_wp2_with fail
    go_loop [5] (fun iv => ∃ k : Nat, iv = .int .i64 k ∧ k ≤ L.length) (fun iv => L.length - (intOf iv).toNat)
    case atStart => exact ⟨0, rfl, Nat.zero_le _⟩
    case round =>
      obtain ⟨k, rfl, hk⟩ := hrel
      by_cases hkl : k < L.length
      · have hkl' : (k : Int) < (L.length : Int) := by omega
        obtain ⟨g, rfl, c0⟩ := HC.out k hkl
        have hne := HN.out _ (List.getElem_mem hkl)
        generalize L[k].h = y at c0 hne
        have hz : (y == id) = false := by simpa using hne
        go_wp2_with fail
        go_round
        case rel => exact ⟨k + 1, by go_num, by omega⟩
        case measure => simp [intOf]; omega
      · have hg3 : decide (k < L.length) = false := decide_eq_false hkl
        go_wp2_with fail
        go_ret
        exact ⟨rfl, rfl⟩
end Go.Proofs.YtdbfjcdglcagaaaDoor
