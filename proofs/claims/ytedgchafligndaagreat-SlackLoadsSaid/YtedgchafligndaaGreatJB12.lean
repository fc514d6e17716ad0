/- Texts of stages 3, 4, 12, 13 and 14 that stand together: JCat JOrd JTurn JPlN JPlP JPlG QRefG JSaved; no condition but those that each row names. -/
import Derived.Test.YtedgchafligndaaGreatJB3
import Derived.Test.YtedgchafligndaaGreatJB4
import Derived.Test.YtedgchafligndaaGreatJB5
import Derived.Test.YtedgchafligndaaGreatJB6
import Derived.Test.YtedgchafligndaaGreatJB7
import Derived.Test.YtedgchafligndaaGreatJB8
import Derived.Test.YtedgchafligndaaGreatJB9
import Derived.Test.YtedgchafligndaaGreatJB10
import Derived.Test.YtedgchafligndaaGreatJB11
import Derived.Lib.AppendZerosOnto
import Derived.Lib.SliceRun
import Derived.WalkMore
import Derived.Deep.RegionLaw
import Derived.Deep.CutRange
import Derived.Deep.RegionHeld3
/- The library's slices.Grow and slices.Concat of handles; no condition but those that each row names. -/
namespace Go.Proofs.YtedgchafligndaaGreat
open Go.RowKit Tsk

abbrev HTy : TypeId := 60
/-- Handles that are read one by one. -/
def SrcH (w : World) (u : Value) (l : List Int) : Prop := ∃ p cap, u = .slice p l.length cap ∧ ∀ j y, (ints l)[j]? = some y → ∃ b off, p = some ⟨b, off, none⟩ ∧ w.cell? ⟨b, off + j, none⟩ = some y
theorem SrcH.below {w w' : World} {u : Value} {l : List Int} (h : SrcH w u l) (hb : Below w.heap.size w w') : SrcH w' u l := by
  obtain ⟨p, cap, e, hc⟩ := h
  exact ⟨p, cap, e, fun j y hy => by
    obtain ⟨b, off, e2, hcell⟩ := hc j y hy
    exact ⟨b, off, e2, (hb.cell (p := ⟨b, off + j, none⟩) (cell_lt hcell)).trans hcell⟩⟩
theorem run_append_h (w : World) (ty : TypeId) (base : Nat) (v : Value) (n : Nat) (xs : List Value) (hown : w.ownsRow base HTy 1 v n xs) (u : Value) (l : List Int) (hu : SrcH w u l) (hm : n + l.length ≤ 4096) (hbase : base ≤ w.heap.size) :
    ∃ p cap w', (Builtin.append_ #[47, 47] ty #[v, u]).run Tryz.prog w = .ok (.slice p (n + l.length) cap) w' ∧ w'.ownsRow base HTy 1 (.slice p (n + l.length) cap) (n + l.length) (xs ++ ints l) ∧ w.grownBy w' v.ownBlock ∧
      (∀ g, (Value.slice p (n + l.length) cap).ownBlock = some g → v.ownBlock = some g ∨ w.heap.size ≤ g) := by
  obtain ⟨i0, hi, hz0, hz1, hz2⟩ := info_parts Tryz.info60
  obtain ⟨p, cap, rfl, hc⟩ := hu
  cases l with
  | nil =>
    obtain ⟨p', cap', rfl, hle⟩ := own_small hown
    refine ⟨p', cap', w, ?_, by simpa [ints] using hown, ⟨rfl, rfl, rfl, Nat.le_refl _, fun _ _ _ => rfl⟩, fun g e => .inl e⟩
    refine run_append_nothing w 47 47 ty HTy i0 Tryz.underlying47 hi p' n cap' hle _ ?_
    cases p with
    | none => exact Src.ofNil w Tryz.underlying47 cap
    | some a => exact Src.ofSlice w Tryz.underlying47 a 0 cap [] (by simp) (fun j u hj => by simp at hj) (fun u hu => by simp at hu)
  | cons z l =>
    obtain ⟨b, off, rfl, _⟩ := hc 0 (.int .i64 z) rfl
    obtain ⟨g, cap', w', hr, ho, hg, hat, hlt⟩ := run_append_lies (P := Tryz.prog) (w := w) 47 ty base HTy i0 (.int .i64 0) 1 8 Tryz.underlying47 hi hz0 hz1 hz2 rfl (by decide) v n xs hown ⟨b, off, none⟩ (z :: l).length cap (ints (z :: l)) (by rw [ints_len]; omega)
      (fun j u hj => by
        obtain ⟨b', off', e, hcell⟩ := hc j u hj
        cases e
        have hadd : (⟨b, off, none⟩ : Addr).add j = ⟨b, off + j, none⟩ := by unfold Addr.add; split <;> simp_all
        rw [hadd]; exact hcell) ints_one (by simp) (by unfold maxLen; simp at hm ⊢; omega) (by omega) hbase _ rfl
    refine ⟨_, _, w', hr, ho, hg, fun g' e => ?_⟩
    simp [Value.ownBlock] at e
    subst e
    rcases hat with e | e
    · exact .inl e
    · exact .inr (by omega)
theorem wpList_append_h {w : World} {ops : Array Oper} {rest : List Oper} {o : Oper} {a : Act} {Q : Exit → Act → World → Prop} (hgd : o.guard = none) (s x : Operand)
    (ho : o.op = .call { callee := .builtin .append, args := #[s, x], argTypes := #[47, 47] })
    (base : Nat) (v : Value) (n : Nat) (xs : List Value) (hs : a.eval s = v) (hown : w.ownsRow base HTy 1 v n xs) (u : Value) (l : List Int) (hx : a.eval x = u) (hu : SrcH w u l) (hm : n + l.length ≤ 4096) (hbase : base ≤ w.heap.size)
    (h : ∀ p cap w', w'.ownsRow base HTy 1 (.slice p (n + l.length) cap) (n + l.length) (xs ++ ints l) → w.grownBy w' v.ownBlock → (∀ g, (Value.slice p (n + l.length) cap).ownBlock = some g → v.ownBlock = some g ∨ w.heap.size ≤ g) → wpList Tryz.prog ops Q rest (a.put o.dst (.slice p (n + l.length) cap)) w') : wpList Tryz.prog ops Q (o :: rest) a w := by
  refine wpList_plain hgd fun K hK => ?_
  obtain ⟨p, cap, w', hr, h2, h3, h4⟩ := run_append_h w o.type base v n xs hown u l hu hm hbase
  unfold Oper.wp execOp
  simp only [ho, resolve, invoke, builtin, Sem.run_bind, Sem.run_pure, Result.andThen_ok, List.map_toArray, List.map_cons, List.map_nil, hs, hx, hr]
  exact hK _ _ (h p cap w' h2 h3 h4)
/-- A row of one's own, none of it said yet. -/
theorem own_none {B g c n : Nat} {w : World} {xs : List Value} (h : w.ownsRow B HTy 1 (.slice (some ⟨g, 0, none⟩) n c) n xs) : w.ownsRow B HTy 1 (.slice (some ⟨g, 0, none⟩) 0 c) 0 [] := by
  obtain ⟨h1, h2 | ⟨g', cap, cs, e, hB, hb, hn, hm, hl, ht⟩⟩ := h
  · cases h2.1
  · cases e
    exact ⟨rfl, .inr ⟨g, c, cs, rfl, hB, hb, Nat.zero_le _, hm, hl, by simp⟩⟩
set_option maxHeartbeats 1000000 in
set_option maxRecDepth 100000 in
theorem jgrow (n : Nat) (h1 : 1 ≤ n) (h2 : n ≤ 4096) (w : World) : Calls Tryz.prog 100 #[.slice none 0 0, .int .i64 n] w fun e w' =>
    ∃ g c, e = .returned (.slice (some ⟨g, 0, none⟩) 0 c) ∧ w'.ownsRow w.heap.size HTy 1 (.slice (some ⟨g, 0, none⟩) 0 c) 0 [] ∧ Below w.heap.size w w' := by
  obtain ⟨i0, hi, hz0, hz1, hz2⟩ := info_parts Tryz.info60
  have hrz : ∀ ty, (Builtin.append_ #[47, 3] ty #[.slice none 0 0, .int .i64 (n : Int)]).run Tryz.prog w = .ok (.slice (some ⟨w.heap.size, 0, none⟩) (0 + n) (grownCap w (0 + n) 0 HTy)) (w.drew.alloc (.cells (([] : List Value).toArray ++ Builtin.zeroCells (Value.int .i64 0).cells n ++ Builtin.zeroCells (Value.int .i64 0).cells (grownCap w (0 + n) 0 HTy - (0 + n))) HTy)) := fun ty =>
    Lib.run_append_grow_zeros w 47 3 ty HTy i0 (.int .i64 0) .i64 .i64 Tryz.underlying47 Tryz.underlying3 hi hz0 none 0 0 [] (by simpa using run_firstCells_none w.drew i0.size 0 0 0) n (by omega) (by omega) (by omega) (by omega) (by rw [hz2]; omega) (growslice_fits (by omega) (by rw [hz2]; omega))
  have hge := grownCap_ge w (0 + n) 0 HTy
  have hle := grownCap_le_maxLen w (0 + n) 0 HTy (by unfold maxLen; omega)
  generalize grownCap w (0 + n) 0 HTy = G at *
  have HO := Lib.hid (show (w.drew.alloc (.cells (([] : List Value).toArray ++ Builtin.zeroCells (Value.int .i64 0).cells n ++ Builtin.zeroCells (Value.int .i64 0).cells (G - (0 + n))) HTy)).ownsRow w.heap.size HTy 1 (.slice (some ⟨w.heap.size, 0, none⟩) 0 G) 0 [] ∧ Below w.heap.size w (w.drew.alloc (.cells (([] : List Value).toArray ++ Builtin.zeroCells (Value.int .i64 0).cells n ++ Builtin.zeroCells (Value.int .i64 0).cells (G - (0 + n))) HTy)) from by
    refine ⟨⟨rfl, .inr ⟨w.heap.size, G, _, rfl, Nat.le_refl _, heap_alloc_new _ _, Nat.zero_le _, hle, ?_, by simp⟩⟩, ((Below.refl _ _).drew).alloc (by simp) _⟩
    simp [Builtin.zeroCells, Value.cells]
    omega)
  generalize w.drew.alloc (.cells (([] : List Value).toArray ++ Builtin.zeroCells (Value.int .i64 0).cells n ++ Builtin.zeroCells (Value.int .i64 0).cells (G - (0 + n))) HTy) = W1 at *
  have hG63 : G ≤ 9223372036854775807 := by unfold maxLen at hle; omega
  have z0 : (0 : Int) < (n : Int) := by omega
  have z1 : ¬ (n : Int) < 0 := by omega
  have z2 : wrap64 ((n : Int) - 0) = n := by unfold wrap64; omega
  have z3 : (0 : Int) ≤ (G : Int) := by omega
  go_enter Tryz.func100, Tryz.ntmps100
  go_wp2_with (at_builtin; refine Lib.wpList_append_run _ rfl _ _ _ _ rfl _ _ rfl rfl _ _ (hrz _) ?_)
  all_goals
    go_ret
    exact ⟨_, _, rfl, HO.out.1, HO.out.2⟩
end Go.Proofs.YtedgchafligndaaGreat
/- The order of turns as lists: the slots behind the last one's, round to it; the first of the most urgent ones; nothing of the program; no condition. -/
namespace Go.Proofs.YtedgchafligndaaGreat
open Go.RowKit Tsk

namespace Tsk
def stepB (T : Nat → Tk) (b : Int) (i : Nat) : Int := if 0 < (T i).n ∧ (b < 0 ∨ (T i).p < (T b.toNat).p) then (i : Int) else b
/-- The first of the most urgent ones of a list of slots; -1: none. -/
def bestF (T : Nat → Tk) (L : List Nat) : Int := L.foldl (stepB T) (-1)
def ordL (t : Nat → Bool) (last : Int) (k : Nat) : List Nat := ((List.range k).map (fun j => atN last (j + 1))).filter t
/-- The taken slots in the order of their turns. -/
def turnsL (A : Tab) (last : Int) : List Nat := ordL A.t last 16
end Tsk
theorem nxS_best (t : Nat → Bool) (T : Nat → Tk) (last : Int) : ∀ k, nxS t T last k = bestF T (ordL t last k)
  | 0 => rfl
  | k + 1 => by
    have ih := nxS_best t T last k
    have e : ordL t last (k + 1) = ordL t last k ++ (if t (atN last (k + 1)) = true then [atN last (k + 1)] else []) := by
      unfold ordL
      rw [List.range_succ, List.map_append, List.filter_append]
      congr 1
      cases ht : t (atN last (k + 1)) <;> simp [ht]
    rw [e]
    unfold bestF
    rw [List.foldl_append]
    rw [show List.foldl (stepB T) (-1) (ordL t last k) = nxS t T last k from ih.symm]
    cases ht : t (atN last (k + 1)) with
    | false => simp [nxS, ht]
    | true => simp [nxS, ht, stepB]
theorem nx_turns (A : Tab) (T : Nat → Tk) (last : Int) : nx A T last = bestF T (turnsL A last) := nxS_best A.t T last 16
theorem range_turn : ∀ n : Fin 17, (List.range 16).map (fun j => atN ((n.val : Int) - 1) (j + 1)) = (List.range 16).drop n.val ++ (List.range 16).take n.val := by decide
theorem turns_split {A : Tab} {last : Int} (hn : A.gens.length = 16) (lo : -1 ≤ last) (hi : last < 16) :
    turnsL A last = ((List.range 16).drop (last + 1).toNat).filter A.t ++ ((List.range 16).take (last + 1).toNat).filter A.t ∧
    A.idxs = ((List.range 16).take (last + 1).toNat).filter A.t ++ ((List.range 16).drop (last + 1).toNat).filter A.t := by
  have h1 := range_turn ⟨(last + 1).toNat, by omega⟩
  have e : (((last + 1).toNat : Nat) : Int) - 1 = last := by omega
  dsimp only at h1
  rw [e] at h1
  refine ⟨?_, ?_⟩
  · unfold turnsL ordL
    rw [h1, List.filter_append]
  · unfold Tab.idxs Tab.n
    rw [hn, ← List.filter_append, List.take_append_drop]
theorem take_le {n i : Nat} {t : Nat → Bool} (h : i ∈ ((List.range 16).take n).filter t) : i < n := by
  have h1 := (List.mem_filter.1 h).1
  rw [List.take_range] at h1
  have := List.mem_range.1 h1
  omega
theorem drop_ge {n i : Nat} {t : Nat → Bool} (h : i ∈ ((List.range 16).drop n).filter t) : n ≤ i := by
  have h1 := (List.mem_filter.1 h).1
  obtain ⟨j, hj, e⟩ := List.mem_iff_getElem.1 h1
  rw [List.getElem_drop, List.getElem_range] at e
  omega
theorem getD_left {a b : List Nat} {j : Nat} (h : j < a.length) : (a ++ b).getD j 0 = a.getD j 0 := by
  rw [List.getD_eq_getElem?_getD, List.getElem?_append_left h, ← List.getD_eq_getElem?_getD]
theorem getD_right (a b : List Nat) : (a ++ b).getD a.length 0 = b.getD 0 0 := by
  rw [List.getD_eq_getElem?_getD, List.getElem?_append_right (Nat.le_refl _), Nat.sub_self, ← List.getD_eq_getElem?_getD]
theorem getD_in {l : List Nat} {j : Nat} (h : j < l.length) : l.getD j 0 ∈ l := by
  rw [List.getD_eq_getElem?_getD, List.getElem?_eq_getElem h]
  exact List.getElem_mem h
/-- Where the first one behind the last one's slot stands at a place, the turns are the rows from there on, then those ahead. -/
theorem turns_first {A : Tab} {last : Int} (hn : A.gens.length = 16) (lo : -1 ≤ last) (hi : last < 16) {k : Nat} (hk : k < A.idxs.length) (h0 : ∀ j, j < k → ¬ last < (A.idxs.getD j 0 : Nat)) (h1 : last < (A.idxs.getD k 0 : Nat)) : turnsL A last = A.idxs.drop k ++ A.idxs.take k := by
  obtain ⟨e1, e2⟩ := turns_split hn lo hi
  have ha := fun i => take_le (n := (last + 1).toNat) (i := i) (t := A.t)
  have hb := fun i => drop_ge (n := (last + 1).toNat) (i := i) (t := A.t)
  generalize ((List.range 16).take (last + 1).toNat).filter A.t = a at *
  generalize ((List.range 16).drop (last + 1).toNat).filter A.t = b at *
  rw [e2] at hk h0 h1 ⊢
  have hka : k = a.length := by
    rcases Nat.lt_trichotomy k a.length with c | c | c
    · have h2 := ha _ (getD_in c)
      rw [getD_left c] at h1
      omega
    · exact c
    · have h2 := h0 a.length c
      rw [getD_right] at h2
      rw [List.length_append] at hk
      have h3 := hb _ (getD_in (l := b) (j := 0) (by omega))
      omega
  subst hka
  rw [e1, List.drop_left, List.take_left]
theorem turns_none {A : Tab} {last : Int} (hn : A.gens.length = 16) (lo : -1 ≤ last) (hi : last < 16) (h0 : ∀ j, j < A.idxs.length → ¬ last < (A.idxs.getD j 0 : Nat)) : turnsL A last = A.idxs := by
  obtain ⟨e1, e2⟩ := turns_split hn lo hi
  have hb := fun i => drop_ge (n := (last + 1).toNat) (i := i) (t := A.t)
  generalize ((List.range 16).take (last + 1).toNat).filter A.t = a at *
  generalize ((List.range 16).drop (last + 1).toNat).filter A.t = b at *
  cases b with
  | nil => rw [e1, e2]; simp
  | cons x b =>
    rw [e2] at h0
    have h2 := h0 a.length (by simp)
    rw [getD_right] at h2
    have h3 := hb _ (getD_in (l := x :: b) (j := 0) (by simp))
    omega
theorem turns_mem {A : Tab} {last : Int} (hn : A.gens.length = 16) (lo : -1 ≤ last) (hi : last < 16) {i : Nat} (h : i ∈ turnsL A last) : i < 16 ∧ A.t i = true := by
  obtain ⟨e1, _⟩ := turns_split hn lo hi
  rw [e1, List.mem_append, List.mem_filter, List.mem_filter] at h
  rcases h with h | h
  · exact ⟨List.mem_range.1 (List.mem_of_mem_drop h.1), h.2⟩
  · exact ⟨List.mem_range.1 (List.mem_of_mem_take h.1), h.2⟩
theorem turns_len {A : Tab} {last : Int} (hn : A.gens.length = 16) (lo : -1 ≤ last) (hi : last < 16) : (turnsL A last).length = A.idxs.length := by
  obtain ⟨e1, e2⟩ := turns_split hn lo hi
  rw [e1, e2, List.length_append, List.length_append]
  omega
theorem bestF_take (T : Nat → Tk) {L : List Nat} {j : Nat} (h : j < L.length) : bestF T (L.take (j + 1)) = stepB T (bestF T (L.take j)) (L.getD j 0) := by
  unfold bestF
  rw [List.take_add_one, List.foldl_append, List.getD_eq_getElem?_getD, List.getElem?_eq_getElem h]
  rfl
theorem bestF_stays (T : Nat → Tk) (h0 : ∀ i, 0 ≤ (T i).p) {b : Int} (hb : 0 ≤ b) (hp : (T b.toNat).p ≤ 0) : ∀ L : List Nat, L.foldl (stepB T) b = b
  | [] => rfl
  | i :: L => by
    have e : stepB T b i = b := by
      unfold stepB
      have := h0 i
      rw [if_neg (by omega)]
    rw [List.foldl_cons, e]
    exact bestF_stays T h0 hb hp L
/-- Who has priority 0 stays. -/
theorem bestF_end (T : Nat → Tk) (h0 : ∀ i, 0 ≤ (T i).p) {L : List Nat} {j : Nat} (hb : 0 ≤ bestF T (L.take j)) (hp : (T (bestF T (L.take j)).toNat).p ≤ 0) : bestF T L = bestF T (L.take j) := by
  have h1 : bestF T L = (L.drop j).foldl (stepB T) (bestF T (L.take j)) := by
    unfold bestF
    rw [← List.foldl_append, List.take_append_drop]
  rw [h1]
  exact bestF_stays T h0 hb hp _
theorem stepB_in (T : Nat → Tk) {L : List Nat} {b : Int} {i : Nat} (hb : b = -1 ∨ ∃ j : Nat, b = j ∧ j ∈ L ∧ 0 < (T j).n) (hi : i ∈ L) : stepB T b i = -1 ∨ ∃ j : Nat, stepB T b i = j ∧ j ∈ L ∧ 0 < (T j).n := by
  unfold stepB
  by_cases c : 0 < (T i).n ∧ (b < 0 ∨ (T i).p < (T b.toNat).p)
  · rw [if_pos c]; exact .inr ⟨i, rfl, hi, c.1⟩
  · rw [if_neg c]; exact hb
end Go.Proofs.YtedgchafligndaaGreat
/- The library's slices.IndexFunc and slices.Concat of handles, the program's turns; no condition but those that each row names. -/
namespace Go.Proofs.YtedgchafligndaaGreat
open Go.RowKit Tsk

set_option maxHeartbeats 1000000 in
set_option maxRecDepth 100000 in
theorem jturn1 (w : World) (pb bl : Nat) (la x : Int) (hx : okH x) (hp : w.cell? ⟨pb, 0, none⟩ = some (.pointer (some ⟨bl, 0, none⟩))) (hl : w.cell? ⟨bl, 1, none⟩ = some (.int .i64 la)) :
    Calls Tryz.prog 85 #[.int .i64 x, .pointer (some ⟨pb, 0, none⟩)] w fun e w' => e = .returned (.bool (decide (la < sOf x))) ∧ Below w.heap.size w w' := by
  have HS := Lib.hid (fun w => slot_ok x w hx)
  clear hx
  go_enter Tryz.func85, Tryz.ntmps85
  go_wp2_with fail
  go_quiet ((go_at_call 62; exact Calls.quiet_of_same ((HS.out _).mono fun _ _ h => ⟨h.1, h.2.symm⟩)))
  go_wp2_with fail
  go_ret
  exact ⟨rfl, below_drewN (Below.refl _ _) _⟩
set_option maxHeartbeats 1000000 in
set_option maxRecDepth 100000 in
theorem jindex (w : World) (p : Option Addr) (cap m : Nat) (hm : m ≤ 4096) (y : Nat → Int) (f : Nat) (lb : Array Value) (dl : Nat → Bool) (hc : ∀ j, j < m → ∃ b off, p = some ⟨b, off, none⟩ ∧ w.cell? ⟨b, off + j, none⟩ = some (.int .i64 (y j)))
    (ef : ∀ args w, (callFunc f args).run Tryz.prog w = .ok (.enter f args) w) (ht : ∀ W, Below w.heap.size w W → ∀ j, j < m → Calls Tryz.prog f (#[.int .i64 (y j)] ++ lb) W fun e W' => e = .returned (.bool (dl j)) ∧ Below W.heap.size W W') :
    Calls Tryz.prog 84 #[.slice p m cap, .func (.func f) #[] lb] w fun e w' =>
      (∃ k : Nat, k ≤ m ∧ (∀ j, j < k → dl j = false) ∧ ((k = m ∧ e = .returned (.int .i64 (-1))) ∨ (k < m ∧ dl k = true ∧ e = .returned (.int .i64 k)))) ∧ Below w.heap.size w w' := by
  have HT := Lib.hid ht
  have HC := Lib.hid hc
  clear hc ht
  go_enter Tryz.func84, Tryz.ntmps84
  go_wp2_with fail
  go_loopw [8] (fun i wr => ∃ k : Nat, i = .int .i64 k ∧ k ≤ m ∧ Hid (∀ j, j < k → dl j = false) ∧ Hid (Below w.heap.size w wr)) (fun i _ => m - (intOf i).toNat)
  case atStart => exact ⟨0, rfl, Nat.zero_le _, Lib.hid (fun j h => by omega), Lib.hid (Below.refl _ _)⟩
  case round =>
    obtain ⟨k, rfl, hk, HALL, HB⟩ := hrel
    by_cases hlt : k < m
    · obtain ⟨b, off, rfl, hcell⟩ := HC.out k hlt
      have c0 := (HB.out.cell (p := ⟨b, off + k, none⟩) (cell_lt hcell)).trans hcell
      have hcall := HT.out wr HB.out k hlt
      generalize y k = yk at *
      have z0 : (0 : Int) ≤ (k : Int) := by omega
      have z1 : (k : Int) < (m : Int) := by omega
      cases hd : dl k with
      | false =>
        rw [hd] at hcall
        have HCL := Lib.hid hcall
        have HD := Lib.hid hd
        clear hcall hd hcell
        go_wp2_with fail
        refine HCL.out.mono ?_
        rintro e w1 ⟨rfl, hb1⟩
        have HB1 := Lib.hid (bnext HB.out hb1)
        clear hb1
        go_wp2_with fail
        go_roundw
        case rel =>
          refine ⟨k + 1, by go_num, by omega, Lib.hid (fun j hjk => ?_), HB1⟩
          rcases Nat.lt_or_ge j k with h | h
          · exact HALL.out j h
          · obtain rfl : j = k := by omega
            exact HD.out
        case measure => simp [intOf]; omega
      | true =>
        rw [hd] at hcall
        have HCL := Lib.hid hcall
        have HD := Lib.hid hd
        clear hcall hd hcell
        go_wp2_with fail
        refine HCL.out.mono ?_
        rintro e w1 ⟨rfl, hb1⟩
        have HB1 := Lib.hid (bnext HB.out hb1)
        clear hb1
        go_wp2_with fail
        go_ret
        exact ⟨⟨k, hk, HALL.out, .inr ⟨hlt, HD.out, rfl⟩⟩, HB1.out⟩
    · obtain rfl : k = m := by omega
      go_wp2_with fail
      go_ret
      exact ⟨⟨k, Nat.le_refl _, HALL.out, .inl ⟨rfl, rfl⟩⟩, HB.out⟩
set_option maxHeartbeats 1000000 in
set_option maxRecDepth 100000 in
theorem jconcat (w : World) (g : Nat) (u1 u2 : Value) (l1 l2 : List Int) (h1 : SrcH w u1 l1) (h2 : SrcH w u2 l2) (c0 : w.cell? ⟨g, 0, none⟩ = some u1) (c1 : w.cell? ⟨g, 1, none⟩ = some u2) (hn : 1 ≤ l1.length + l2.length) (hm : l1.length + l2.length ≤ 4096) :
    Calls Tryz.prog 86 #[.slice (some ⟨g, 0, none⟩) 2 2] w fun e w' => ∃ v, e = .returned v ∧ w'.ownsRow w.heap.size HTy 1 v (l1.length + l2.length) (ints (l1 ++ l2)) ∧ Below w.heap.size w w' := by
  have HG := Lib.hid (jgrow (l1.length + l2.length) hn hm w)
  have H1 := Lib.hid h1
  have H2 := Lib.hid h2
  obtain ⟨p1, d1, rfl, _⟩ := h1
  obtain ⟨p2, d2, rfl, _⟩ := h2
  go_enter Tryz.func86, Tryz.ntmps86
  go_wp2_with fail
  go_loopw [3, 11] (fun sv iv wr => ∃ i : Nat, i ≤ 2 ∧ iv = .int .i64 i ∧ wr = w ∧ sv = .int .i64 ((if i = 0 then 0 else if i = 1 then l1.length else l1.length + l2.length : Nat) : Int)) (fun _ iv _ => 2 - (intOf iv).toNat)
  case atStart => exact ⟨0, by omega, rfl, rfl, rfl⟩
  case round =>
    obtain ⟨i, hi, rfl, rfl, rfl⟩ := hrel
    rcases (show i = 0 ∨ i = 1 ∨ i = 2 by omega) with rfl | rfl | rfl
    · simp only [if_true]
      have q0 : wrap64 (((0 : Nat) : Int) + (l1.length : Int)) = (l1.length : Int) := by unfold wrap64; omega
      have q1 : ¬ ((l1.length : Int) < 0) := by omega
      go_wp2_with fail
      go_roundw
      case rel => exact ⟨1, by omega, by go_num, by first | trivial | rfl, by simp⟩
      case measure => simp [intOf]
    · simp only [if_true, Nat.one_ne_zero, if_false]
      have q0 : wrap64 ((l1.length : Int) + (l2.length : Int)) = ((l1.length + l2.length : Nat) : Int) := by unfold wrap64; omega
      have q1 : ¬ (((l1.length + l2.length : Nat) : Int) < 0) := by omega
      go_wp2_with fail
      go_roundw
      case rel => exact ⟨2, by omega, by go_num, by first | trivial | rfl, by simp⟩
      case measure => simp [intOf]
    · have e2 : (if (2 : Nat) = 0 then 0 else if (2 : Nat) = 1 then l1.length else l1.length + l2.length) = l1.length + l2.length := by simp
      rw [e2]
      clear e2
      go_wp2_with fail
      refine HG.out.mono ?_
      rintro e w1 ⟨gg, cg, rfl, ho, hb⟩
      have HB1 := Lib.hid hb
      have HO1 := Lib.hid ho
      clear ho hb
      go_wp2_with fail
      have hlt := cell_lt c0
      obtain ⟨w0, hw0⟩ : ∃ w0, w0 = wr := ⟨_, rfl⟩
      rw [← hw0] at HB1 HO1 H1 H2 c0 c1 hlt
      have HE := Lib.hid hw0
      clear hw0
      go_loopw [6, 27] (fun sv iv wq => ∃ (i : Nat) (L : List Int), i ≤ 2 ∧ iv = .int .i64 i ∧ Hid (L = if i = 0 then [] else if i = 1 then l1 else l1 ++ l2) ∧ Hid (wq.ownsRow w0.heap.size HTy 1 sv L.length (ints L)) ∧ Hid (Below w0.heap.size w0 wq)) (fun _ iv _ => 2 - (intOf iv).toNat)
      case atStart => exact ⟨0, [], by omega, rfl, Lib.hid rfl, HO1, HB1⟩
      case round =>
        obtain ⟨i, L, hi, rfl, HL, HO, HB⟩ := hrel
        obtain ⟨ps, cs, rfl⟩ := own_slice HO.out
        have hd0 := (HB.out.cell (p := ⟨g, 0, none⟩) hlt).trans c0
        have hd1 := (HB.out.cell (p := ⟨g, 1, none⟩) hlt).trans c1
        rcases (show i = 0 ∨ i = 1 ∨ i = 2 by omega) with rfl | rfl | rfl
        · obtain rfl : L = [] := by rw [HL.out]; simp
          have hs := HB.out.size
          go_wp2_with (at_builtin; refine wpList_append_h rfl _ _ rfl w0.heap.size (.slice ps ([] : List Int).length cs) 0 [] rfl HO.out _ l1 rfl (H1.out.below HB.out) (by omega) hs ?_)
          intro p3 c3 w3 ho3 hg3 ha3
          have HO3 := Lib.hid (show w3.ownsRow w0.heap.size HTy 1 (.slice p3 l1.length c3) l1.length (ints l1) from ho3)
          have HB3 := Lib.hid (show Below w0.heap.size w0 w3 from HB.out.grown hg3 hs (fun k e => (HO.out.lt k e).1))
          clear ho3 hg3 ha3
          go_wp2_with fail
          go_roundw
          case rel => exact ⟨1, l1, by omega, by go_num, Lib.hid (by simp), HO3, HB3⟩
          case measure => simp [intOf]
        · obtain rfl : L = l1 := by rw [HL.out]; simp
          have hs := HB.out.size
          go_wp2_with (at_builtin; refine wpList_append_h rfl _ _ rfl w0.heap.size (.slice ps L.length cs) L.length (ints L) rfl HO.out _ l2 rfl (H2.out.below HB.out) (by omega) hs ?_)
          intro p3 c3 w3 ho3 hg3 ha3
          have HO3 := Lib.hid (show w3.ownsRow w0.heap.size HTy 1 (.slice p3 (L.length + l2.length) c3) (L ++ l2).length (ints (L ++ l2)) from by
            have e : ints (L ++ l2) = ints L ++ ints l2 := by unfold ints; rw [List.map_append]
            rw [e, List.length_append]; exact ho3)
          have HB3 := Lib.hid (show Below w0.heap.size w0 w3 from HB.out.grown hg3 hs (fun k e => (HO.out.lt k e).1))
          clear ho3 hg3 ha3
          go_wp2_with fail
          go_roundw
          case rel => exact ⟨2, L ++ l2, by omega, by go_num, Lib.hid (by simp), HO3, HB3⟩
          case measure => simp [intOf]
        · obtain rfl : L = l1 ++ l2 := by rw [HL.out]; simp
          have HO2 := Lib.hid (show wr.ownsRow w0.heap.size HTy 1 (.slice ps (l1.length + l2.length) cs) (l1.length + l2.length) (ints (l1 ++ l2)) from by have := HO.out; rw [List.length_append] at this; exact this)
          clear hd0 hd1
          go_wp2_with fail
          go_ret
          obtain rfl := HE.out
          exact ⟨_, rfl, HO2.out, HB.out⟩
theorem own_cap63 {B e z n c : Nat} {p : Option Addr} {w : World} {xs : List Value} (h : w.ownsRow B e z (.slice p n c) n xs) : c ≤ 9223372036854775807 := by
  obtain ⟨_, h2 | ⟨g', cap, cs, e, _, _, _, hm, _⟩⟩ := h
  · cases h2.1; omega
  · cases e; unfold maxLen at hm; omega
/-- What turns answers: the handles in the order of their turns. -/
def TurnsPost (w : World) (A : Tab) (last : Int) (e : Ending) (w' : World) : Prop := ∃ v, e = .returned v ∧ Lst (fun _ => False) w' v (ints ((turnsL A last).map A.hd)) ∧ Below w.heap.size w w'
set_option maxHeartbeats 2000000 in
set_option maxRecDepth 100000 in
theorem plturns (S X : Nat → Prop) (B : Nat) (A : Tab) (T : Nat → Tk) (la : Int) (hg : PGood A T la) (w : World) (v : Value) (h : Pl S X B w A T la v) :
    Calls Tryz.prog 65 #[v] w (TurnsPost w A la) := by
  have hn := hg.len
  have hm : A.idxs.length ≤ 16 := by have := idxTo_len A.t A.n; have e8 : A.n = 16 := hn; show (idxTo A.t A.n).length ≤ 16; omega
  have HN := Lib.hid hn
  have HLO := Lib.hid (⟨hg.lo, hg.hi⟩ : _ ∧ _)
  have HOKH := Lib.hid (show ∀ j, j < A.idxs.length → okH (A.hd (A.idxs.getD j 0)) ∧ sOf (A.hd (A.idxs.getD j 0)) = (A.idxs.getD j 0 : Nat) from fun j hj => by
    obtain ⟨h1, h2⟩ := idxs_at hj
    have := hd_parts hg.tab h1 h2
    exact ⟨this.1, this.2.2.1⟩)
  obtain ⟨sl, bl, ST, tv, rfl, hc, hcl, ht, hb, rfl, hj⟩ := h.parts
  obtain ⟨WA, hWA⟩ : ∃ WA, WA = w.alloc (.cells #[.pointer (some ⟨bl, 0, none⟩)] 34) := ⟨_, rfl⟩
  have HB := Lib.hid (show Below w.heap.size w WA from by rw [hWA]; exact (Below.refl _ _).alloc (Nat.le_refl _) _)
  have hp0 : WA.cell? ⟨w.heap.size, 0, none⟩ = some (.pointer (some ⟨bl, 0, none⟩)) := by rw [hWA]; simp
  have HP0 := Lib.hid hp0
  have HC := Lib.hid hc
  have HCL := Lib.hid hcl.1
  have HAL := Lib.hid (kallO ST B A hg.tab (tm T sl) WA tv (ht.below HB.out))
  have HW := Lib.hid hWA
  obtain ⟨b, g1, c1, g2, c2, g3, c3, rfl, _⟩ := ht
  have hcA := (HB.out.cell (p := ⟨bl, 0, none⟩) (cell_lt hc)).trans hc
  clear hcl hj hg hb hWA hc h hn
  go_enter Tryz.func65, Tryz.ntmps65
  go_upto_region 1 with fail
  rw [← HW.out]
  go_wp2_with fail
  refine HAL.out.mono ?_
  rintro e w2 ⟨rv, rfl, ho2, hb2⟩
  obtain ⟨p, cp, rfl, hcap⟩ := own_small ho2
  have hl := Lst.of_own (S := fun _ => False) ho2 (by rw [ints_len, all_len]) (by omega) (fun _ _ _ k => k)
  have HL2 := Lib.hid hl
  have HCP := Lib.hid (show cp ≤ 9223372036854775807 from own_cap63 ho2)
  obtain ⟨p', cp', e2, _, hal⟩ := hl
  have HH := Lib.hid (show ∀ j, j < A.idxs.length → ∃ ba oa, p = some ⟨ba, oa, none⟩ ∧ w2.cell? ⟨ba, oa + j, none⟩ = some (.int .i64 (A.hd (A.idxs.getD j 0))) from fun j hj => by
    obtain ⟨ba, oa, e, _, hca⟩ := hal j _ (all_at hj)
    simp only [Value.slice.injEq] at e2
    exact ⟨ba, oa, by rw [e2.1]; exact e, hca⟩)
  have HB2 := Lib.hid (bnext HB.out hb2)
  have hpc := (hb2.cell (p := ⟨w.heap.size, 0, none⟩) (cell_lt HP0.out)).trans HP0.out
  have HPC := Lib.hid hpc
  clear hal e2 ho2 hb2 hcA hp0
  have HIX := Lib.hid (jindex w2 p cp A.idxs.length (by omega) (fun j => A.hd (A.idxs.getD j 0)) 85 #[.pointer (some ⟨w.heap.size, 0, none⟩)] (fun j => decide (la < (A.idxs.getD j 0 : Nat))) HH.out (enters_of Tryz.func85 (by kernel_rfl) rfl) (fun W hW j hj => by
    have h1 := jturn1 W w.heap.size bl la _ (HOKH.out j hj).1 ((hW.cell (p := ⟨w.heap.size, 0, none⟩) (cell_lt HPC.out)).trans HPC.out) (((bnext HB2.out hW).cell (p := ⟨bl, 1, none⟩) (cell_lt HCL.out)).trans HCL.out)
    rw [(HOKH.out j hj).2] at h1
    exact h1))
  go_wp2_with fail
  refine HIX.out.mono ?_
  rintro e w3 ⟨⟨k, hk, hall, hend⟩, hb3⟩
  have HB3 := Lib.hid (bnext HB2.out hb3)
  have HL3 := Lib.hid (HL2.out.below hb3)
  have HH3 := Lib.hid (show ∀ j, j < A.idxs.length → ∃ ba oa, p = some ⟨ba, oa, none⟩ ∧ w3.cell? ⟨ba, oa + j, none⟩ = some (.int .i64 (A.hd (A.idxs.getD j 0))) from fun j hj => by
    obtain ⟨ba, oa, e, hca⟩ := HH.out j hj
    exact ⟨ba, oa, e, (hb3.cell (p := ⟨ba, oa + j, none⟩) (cell_lt hca)).trans hca⟩)
  have HA := Lib.hid hall
  clear hb3 hall hpc
  rcases hend with ⟨hkm, rfl⟩ | ⟨hkm, hlt, rfl⟩
  · have HE := Lib.hid (turns_none HN.out HLO.out.1 HLO.out.2 (fun j hj hlt => by have h1 := HA.out j (by omega); rw [decide_eq_false_iff_not] at h1; exact h1 hlt))
    go_wp2_with fail
    go_ret
    refine ⟨_, rfl, ?_, HB3.out⟩
    rw [HE.out]
    exact HL3.out
  · have HE := Lib.hid (turns_first HN.out HLO.out.1 HLO.out.2 hkm (fun j hj hlt => by have h1 := HA.out j hj; rw [decide_eq_false_iff_not] at h1; exact h1 hlt) (of_decide_eq_true hlt))
    go_wp2_with fail
    have hkc : k ≤ cp := by omega
    obtain ⟨ba, oa, rfl, _⟩ := HH3.out 0 (by omega)
    have hcp : cp ≤ 9223372036854775807 := HCP.out
    have hdl : (A.all.drop k).length = A.idxs.length - k := by rw [List.length_drop, all_len]
    have htl : (A.all.take k).length = k := by rw [List.length_take, all_len]; omega
    have HSD := Lib.hid (show SrcH w3 (.slice (some ⟨ba, oa + k, none⟩) (A.idxs.length - k) (cp - k)) (A.all.drop k) from ⟨_, _, by rw [hdl], fun j y hy => by
      have hj : j < A.idxs.length - k := by have := (List.getElem?_eq_some_iff.1 hy).1; rw [ints_len, hdl] at this; exact this
      obtain ⟨b', o', e, hcell⟩ := HH3.out (k + j) (by omega)
      cases e
      have : (ints (A.all.drop k))[j]? = (ints A.all)[k + j]? := by unfold ints; rw [List.map_drop, List.getElem?_drop]
      rw [this, all_at (by omega)] at hy
      cases hy
      exact ⟨ba, oa + k, rfl, by rw [Nat.add_assoc]; exact hcell⟩⟩)
    have HST := Lib.hid (show SrcH w3 (.slice (some ⟨ba, oa, none⟩) k cp) (A.all.take k) from ⟨_, _, by rw [htl], fun j y hy => by
      have hj : j < k := by have := (List.getElem?_eq_some_iff.1 hy).1; rw [ints_len, htl] at this; exact this
      obtain ⟨b', o', e, hcell⟩ := HH3.out j (by omega)
      cases e
      have : (ints (A.all.take k))[j]? = (ints A.all)[j]? := by unfold ints; rw [List.map_take, List.getElem?_take, if_pos hj]
      rw [this, all_at (by omega)] at hy
      cases hy
      exact ⟨ba, oa, rfl, hcell⟩⟩)
    have HCAT := Lib.hid (fun W g (hW : Below w3.heap.size w3 W) (q0 : W.cell? ⟨g, 0, none⟩ = some (.slice (some ⟨ba, oa + k, none⟩) (A.idxs.length - k) (cp - k))) (q1 : W.cell? ⟨g, 1, none⟩ = some (.slice (some ⟨ba, oa, none⟩) k cp)) =>
      jconcat W g _ _ _ _ (HSD.out.below hW) (HST.out.below hW) q0 q1 (by rw [hdl, htl]; omega) (by rw [hdl, htl]; omega))
    have HLEN := Lib.hid (show (A.all.drop k).length + (A.all.take k).length = ((turnsL A la).map A.hd).length ∧ A.all.drop k ++ A.all.take k = (turnsL A la).map A.hd from by
      rw [HE.out]; unfold Tab.all; simp)
    have k0 : (0 : Int) ≤ (k : Int) := by omega
    have k1 : (k : Int) ≤ (A.idxs.length : Int) := by omega
    have k2 : (k : Int) ≤ (cp : Int) := by omega
    have HB3' := HB3
    have k3 : ¬ cp = k := by omega
    have hba : Below w3.heap.size w3 (w3.alloc (.cells #[.slice (some ⟨ba, oa + k, none⟩) (A.idxs.length - k) (cp - k), .slice (some ⟨ba, oa, none⟩) k cp] 47)).drew := ((Below.refl _ _).alloc (Nat.le_refl _) _).drew
    have HBA := Lib.hid hba
    have HCAL := Lib.hid (HCAT.out _ w3.heap.size hba ((has_cell (has_drew (has_new w3 _ _ rfl)) 0).trans rfl) ((has_cell (has_drew (has_new w3 _ _ rfl)) 1).trans rfl))
    clear hdl htl HH3 HA hlt hba
    go_region_law ((go_simp; go_at_call 86; refine HCAL.out.mono ?_; rintro e w4 ⟨v4, rfl, ho4, hb4⟩))
    all_goals
      have HO4 := Lib.hid ho4
      have HB4 := Lib.hid (bnext (bnext HB3.out HBA.out) hb4)
      clear ho4 hb4
      go_wp2_with fail
      go_ret
      have ho := HO4.out
      rw [HLEN.out.1, HLEN.out.2] at ho
      have hl := turns_len HN.out HLO.out.1 HLO.out.2
      exact ⟨_, rfl, Lst.of_own ho (ints_len _) (by rw [List.length_map, hl]; omega) (fun _ _ _ k => k), HB4.out⟩
end Go.Proofs.YtedgchafligndaaGreat
/- The program's pool: Next, Ready; no condition but those that each row names. -/
namespace Go.Proofs.YtedgchafligndaaGreat
open Go.RowKit Tsk

namespace Tsk
def nhd (A : Tab) (b : Int) : Int := if b < 0 then 0 else A.hd b.toNat
def nle (T : Nat → Tk) (b : Int) : Int := if b < 0 then 32 else (T b.toNat).p
end Tsk
theorem hd_ne0 {A : Tab} (h : A.Good) {i : Nat} (hi : i < A.gens.length) (ht : A.t i = true) : A.hd i ≠ 0 := fun e => by
  have h1 := (hd_parts h hi ht).2.1
  rw [e] at h1
  have h5 : kOf 0 = 0 := by decide
  have := h.k1
  omega
set_option maxHeartbeats 4000000 in
set_option maxRecDepth 100000 in
theorem plnext (S X : Nat → Prop) (B : Nat) (A : Tab) (T : Nat → Tk) (la : Int) (hg : PGood A T la) (w : World) (v : Value) (h : Pl S X B w A T la v) :
    Calls Tryz.prog 33 #[v] w fun e w' => e = .returned (.tuple #[.int .i64 (nxH A T la), .bool (decide (0 ≤ nx A T la))]) ∧ Below w.heap.size w w' := by
  have HTU := Lib.hid (plturns S X B A T la hg w v h)
  have HP := Lib.hid hg
  have HPL := Lib.hid h
  have HP0 := Lib.hid (show ∀ i, 0 ≤ (T i).p ∧ (T i).p ≤ 31 from fun i => (hg.ok i).1)
  have HMEM := Lib.hid (fun i (hi : i ∈ turnsL A la) => turns_mem hg.len hg.lo hg.hi hi)
  have HFD := Lib.hid (fun i (hi : i ∈ turnsL A la) => find_hd hg.tab (by have := (HMEM.out i hi).1; have := hg.len; omega) (HMEM.out i hi).2)
  have HLEN := Lib.hid (turns_len hg.len hg.lo hg.hi)
  have HNX := Lib.hid (nx_turns A T la)
  obtain ⟨sl, bl, ST, tv, rfl, hc, hcl, ht, hb, rfl, hj⟩ := h.parts
  have HC := Lib.hid hc
  have HG := Lib.hid (fun W (hb : Below w.heap.size w W) x i (hf : A.find x = some i) => kget_some ST B A hg.tab (tm T sl) W tv (ht.below hb) (isSl_tm (w := w) hj) x i hf)
  have HSL := Lib.hid (fun i => (hj i).1)
  obtain ⟨b, g1, c1, g2, c2, g3, c3, rfl, _⟩ := ht
  clear hcl hj hg hb hc h
  unfold TurnsPost at HTU
  go_enter Tryz.func33, Tryz.ntmps33
  go_wp2_with fail
  go_step3
  go_wp2_with fail
  go_step3
  go_wp2_with fail
  refine HTU.out.mono ?_
  rintro e w1 ⟨rv, rfl, hl, hb1⟩
  have el : (ints ((turnsL A la).map A.hd)).length = (turnsL A la).length := by rw [ints_len, List.length_map]
  have HB1 := Lib.hid hb1
  obtain ⟨p, cp, rfl, hm63, hal⟩ := hl
  rw [el] at hm63 ⊢
  have HH := Lib.hid (show ∀ j, j < (turnsL A la).length → ∃ ba oa, p = some ⟨ba, oa, none⟩ ∧ w1.cell? ⟨ba, oa + j, none⟩ = some (.int .i64 (A.hd ((turnsL A la).getD j 0))) from fun j hj => by
    obtain ⟨ba, oa, e, _, hca⟩ := hal j (.int .i64 (A.hd ((turnsL A la).getD j 0))) (by
      unfold ints
      simp [hj, List.getD_eq_getElem?_getD])
    exact ⟨ba, oa, e, hca⟩)
  have HB1' := Lib.hid (Below.refl w1.heap.size w1)
  generalize hLL : turnsL A la = L at *
  clear hb1 hal el hLL
  go_wp2_with fail
  go_loopw [4, 5, 15] (fun nv lv iv wr => ∃ j : Nat, j ≤ L.length ∧ iv = .int .i64 j ∧ nv = .int .i64 (nhd A (bestF T (L.take j))) ∧ lv = .int .i64 (nle T (bestF T (L.take j))) ∧ Hid (bestF T (L.take j) = -1 ∨ ∃ i : Nat, bestF T (L.take j) = i ∧ i ∈ L ∧ 0 < (T i).n) ∧ Hid (Below w1.heap.size w1 wr)) (fun _ _ iv _ => L.length - (intOf iv).toNat)
  case atStart => exact ⟨0, Nat.zero_le _, rfl, rfl, rfl, Lib.hid (.inl rfl), HB1'⟩
  case round =>
    clear HB1'
    obtain ⟨j, hj, rfl, rfl, rfl, HIN, HB⟩ := hrel
    have z0 : (0 : Int) ≤ (j : Int) := by omega
    by_cases hlt : j < L.length
    · have z1 : (j : Int) < (L.length : Int) := by omega
      obtain ⟨ba, oa, rfl, hca⟩ := HH.out j hlt
      have hcb := (HB.out.cell (p := ⟨ba, oa + j, none⟩) (cell_lt hca)).trans hca
      have HTK := Lib.hid (bestF_take T hlt)
      have him := getD_in hlt
      have HIM := Lib.hid him
      have hct := (bnext HB1.out HB.out).cell (p := ⟨bl, 0, none⟩) (cell_lt HC.out)
      rw [HC.out] at hct
      have HGI := Lib.hid (HG.out wr (bnext HB1.out HB.out) _ _ (HFD.out _ him))
      dsimp only [tm] at HGI
      obtain ⟨q0, c0, hs0, _⟩ := HSL.out (L.getD j 0)
      rw [hs0] at HGI
      have HST := Lib.hid (show bestF T (L.take (j + 1)) = if 0 < (T (L.getD j 0)).n ∧ (bestF T (L.take j) < 0 ∨ (T (L.getD j 0)).p < (T (bestF T (L.take j)).toNat).p) then ((L.getD j 0 : Nat) : Int) else bestF T (L.take j) from HTK.out)
      have HNX2 := Lib.hid (stepB_in T HIN.out HIM.out)
      rw [← HTK.out] at HNX2
      obtain ⟨hp0, hp31⟩ := HP0.out (L.getD j 0)
      have HH0 := Lib.hid (show nhd A ((L.getD j 0 : Nat) : Int) = A.hd (L.getD j 0) ∧ nle T ((L.getD j 0 : Nat) : Int) = (T (L.getD j 0)).p from ⟨by unfold nhd; rw [if_neg (by omega), Int.toNat_natCast], by unfold nle; rw [if_neg (by omega), Int.toNat_natCast]⟩)
      have HNB := Lib.hid (show bestF T (L.take j) < 0 → nle T (bestF T (L.take j)) = 32 from fun h => by unfold nle; rw [if_pos h])
      have HNC := Lib.hid (show ¬ bestF T (L.take j) < 0 → nle T (bestF T (L.take j)) = (T (bestF T (L.take j)).toNat).p from fun h => by unfold nle; rw [if_neg h])
      have HEN := Lib.hid (fun hb hp => bestF_end T (fun i => (HP0.out i).1) (L := L) (j := j + 1) hb hp)
      have HNH := Lib.hid (show A.hd (L.getD j 0) ≠ 0 from hd_ne0 HP.out.tab (by have := (HMEM.out _ him).1; have := HP.out.len; omega) (HMEM.out _ him).2)
      have HRD := Lib.hid (fun W => pready (T (L.getD j 0)).p q0 (T (L.getD j 0)).n c0 (T (L.getD j 0)).k W)
      generalize hii : L.getD j 0 = i at *
      obtain ⟨t, hti⟩ : ∃ t, t = T i := ⟨_, rfl⟩
      rw [← hti] at HGI HST HH0 HRD hp0 hp31
      have HTI := Lib.hid hti
      clear hii him hca hs0 hti
      obtain ⟨tp, ts, tn, tf, ⟨kg, ko, kn, kd, kc, kt⟩⟩ := t
      dsimp only at HGI HST HH0 HRD hp0 hp31
      generalize hb2e : bestF T (L.take (j + 1)) = b2 at *
      have HB2E := Lib.hid hb2e
      generalize bestF T (L.take j) = b1 at *
      generalize hle : nle T b1 = le at *
      have HLE := Lib.hid hle
      clear hb2e hle
      generalize A.hd i = hx at *
      go_wp2_with fail
      refine HGI.out.mono ?_
      rintro e w2 ⟨rfl, hb2⟩
      have HB2 := Lib.hid (bnext HB.out hb2)
      clear hb2
      obtain ⟨W2, hW2⟩ : ∃ W2, W2 = w2.alloc (.cells #[.int .i64 tp, .slice q0 tn c0, .int .i64 kg, .int .i64 ko, .int .i64 kn, .int .i64 kd, .int .i64 kc, .int .i64 kt] KT) := ⟨_, rfl⟩
      have HT2 := Lib.hid (show HasT W2 w2.heap.size tp (.slice q0 tn c0) ⟨kg, ko, kn, kd, kc, kt⟩ from by rw [hW2]; exact hasT_new w2 tp _ ⟨kg, ko, kn, kd, kc, kt⟩)
      have HB3 := Lib.hid (show Below w1.heap.size w1 W2 from by rw [hW2]; exact HB2.out.alloc HB2.out.size _)
      have HW2 := Lib.hid hW2
      clear hW2
      go_upto_region 8 with fail
      rw [← HW2.out]
      obtain ⟨x0, x1, x2, x3, x4, x5, x6, x7⟩ := HT2.out.cells
      go_wp2_with fail
      refine (HRD.out W2).mono ?_
      rintro e w4 ⟨rfl, hb4⟩
      have HB4 := Lib.hid (bnext HB3.out hb4)
      have HT4 := Lib.hid (HT2.out.below hb4)
      clear hb4 x0 x1 x2 x3 x4 x5 x6 x7
      obtain ⟨x0, x1, x2, x3, x4, x5, x6, x7⟩ := HT4.out.cells
      by_cases hn : 0 < tn
      · have hd1 : decide (0 < tn) = true := decide_eq_true hn
        by_cases hpl : le ≤ tp
        · have hd2 : decide (le ≤ tp) = true := decide_eq_true hpl
          have HE := Lib.hid (show b2 = b1 from by
            rw [HST.out, if_neg]
            rintro ⟨_, h | h⟩
            · have := HNB.out h; omega
            · by_cases h0 : b1 < 0
              · have := HNB.out h0; omega
              · have := HNC.out (by omega); omega)
          clear hpl hn
          go_wp2_with fail
          go_roundw
          case rel => exact ⟨j + 1, by omega, by go_num, by rw [HB2E.out, HE.out], by rw [HB2E.out, HE.out, HLE.out], by rw [HB2E.out]; exact HNX2, HB4⟩
          case measure => simp [intOf]; omega
        · have hd2 : decide (le ≤ tp) = false := decide_eq_false hpl
          have HE := Lib.hid (show b2 = i from by
            rw [HST.out, if_pos]
            refine ⟨hn, ?_⟩
            by_cases h0 : b1 < 0
            · exact .inl h0
            · have := HNC.out (by omega); exact .inr (by omega))
          clear hpl hn
          by_cases hz : tp = 0
          · have HF := Lib.hid (show nx A T la = b2 ∧ b2 = i from ⟨by rw [HNX.out, HEN.out (by have := HE.out; omega) (by rw [HE.out, Int.toNat_natCast, ← HTI.out]; show tp ≤ 0; omega)], HE.out⟩)
            have hq : ((tp : Int) == 0) = true := by rw [beq_iff_eq]; exact hz
            have hq2 : ((hx : Int) != 0) = true := by rw [bne_iff_ne]; exact HNH.out
            have HX0 := Lib.hid (show nhd A ((i : Nat) : Int) = hx from HH0.out.1)
            clear hz
            go_wp2_with fail
            rw [Exit.noGoto_ret]
            go_ret2
            refine ⟨?_, bnext HB1.out HB4.out⟩
            have h1 := HF.out.2
            unfold nxH
            rw [HF.out.1, h1, if_neg (by omega), decide_eq_true (by omega : (0 : Int) ≤ (i : Int)), ← HX0.out]
            unfold nhd
            rw [if_neg (by omega)]
            rfl
          · have hq : ((tp : Int) == 0) = false := by rw [beq_eq_false_iff_ne]; exact hz
            clear hz
            go_wp2_with fail
            go_region
            all_goals
              go_wp2_with fail
              go_roundw
              case rel => exact ⟨j + 1, by omega, by go_num, by rw [HB2E.out, HE.out, HH0.out.1], by rw [HB2E.out, HE.out, HH0.out.2], by rw [HB2E.out]; exact HNX2, Lib.hid HB4.out.drew⟩
              case measure => simp [intOf]; omega
      · have hd1 : decide (0 < tn) = false := decide_eq_false hn
        have HE := Lib.hid (show b2 = b1 from by rw [HST.out, if_neg]; rintro ⟨h, _⟩; exact hn h)
        obtain rfl : tn = 0 := by omega
        clear hn hd1
        go_wp2_with fail
        go_roundw
        case rel => exact ⟨j + 1, by omega, by go_num, by rw [HB2E.out, HE.out], by rw [HB2E.out, HE.out, HLE.out], by rw [HB2E.out]; exact HNX2, HB4⟩
        case measure => simp [intOf]; omega
    · have HF := Lib.hid (show nx A T la = bestF T (L.take j) from by rw [HNX.out, List.take_of_length_le (by omega)])
      have HN0 := Lib.hid (show bestF T (L.take j) < 0 → nhd A (bestF T (L.take j)) = 0 from fun h => by unfold nhd; rw [if_pos h])
      have HN1 := Lib.hid (show 0 ≤ bestF T (L.take j) → nhd A (bestF T (L.take j)) ≠ 0 from fun h => by
        rcases HIN.out with e | ⟨i, e, hi, _⟩
        · omega
        · rw [e]; unfold nhd; rw [if_neg (by omega), Int.toNat_natCast]
          exact hd_ne0 HP.out.tab (by have := (HMEM.out _ hi).1; have := HP.out.len; omega) (HMEM.out _ hi).2)
      have HXE := Lib.hid (show nxH A T la = nhd A (bestF T (L.take j)) from by unfold nxH nhd; rw [HF.out])
      generalize nhd A (bestF T (L.take j)) = hx at *
      by_cases hx0 : hx = 0
      · have hq : ((hx : Int) != 0) = false := by rw [bne_eq_false_iff_eq]; exact hx0
        have HD := Lib.hid (show decide (0 ≤ nx A T la) = false from by rw [HF.out]; exact decide_eq_false (fun h => HN1.out h hx0))
        clear hx0
        go_wp2_with fail
        rw [Exit.noGoto_ret]
        go_ret2
        refine ⟨?_, bnext HB1.out HB.out⟩
        rw [HXE.out, HD.out]
        rfl
      · have hq : ((hx : Int) != 0) = true := by rw [bne_iff_ne]; exact hx0
        have HD := Lib.hid (show decide (0 ≤ nx A T la) = true from by rw [HF.out]; exact decide_eq_true (Int.not_lt.1 fun h => hx0 (HN0.out h)))
        clear hx0
        go_wp2_with fail
        rw [Exit.noGoto_ret]
        go_ret2
        refine ⟨?_, bnext HB1.out HB.out⟩
        rw [HXE.out, HD.out]
        rfl
set_option maxHeartbeats 1000000 in
theorem plready (S X : Nat → Prop) (B : Nat) (A : Tab) (T : Nat → Tk) (la : Int) (hg : PGood A T la) (w : World) (v : Value) (h : Pl S X B w A T la v) :
    Calls Tryz.prog 29 #[v] w fun e w' => e = .returned (.bool (decide (0 ≤ nx A T la))) ∧ Below w.heap.size w w' := by
  have HN := Lib.hid (plnext S X B A T la hg w v h)
  obtain ⟨bl, rfl, _⟩ := h.ptr
  clear hg h
  generalize decide (0 ≤ nx A T la) = d at *
  go_enter Tryz.func29, Tryz.ntmps29
  go_wp2_with fail
  refine HN.out.mono ?_
  rintro e w1 ⟨rfl, hb1⟩
  have HB1 := Lib.hid hb1
  clear hb1
  go_wp2_with fail
  go_ret
  exact ⟨rfl, HB1.out⟩
end Go.Proofs.YtedgchafligndaaGreat
/- The program's pool: Push; no condition but those that each row names. -/
namespace Go.Proofs.YtedgchafligndaaGreat
open Go.RowKit Tsk

set_option maxHeartbeats 2000000 in
set_option maxRecDepth 100000 in
theorem pplpush_none (S X : Nat → Prop) (B : Nat) (A : Tab) (T : Nat → Tk) (la : Int) (hg : PGood A T la) (w : World) (v : Value) (h : Pl S X B w A T la v) (x : Int) (j : Jb) (now : Int) (hf : A.find x = none) :
    Calls Tryz.prog 27 #[v, .int .i64 x, jV j, .int .i64 now] w fun e w' => e = .returned (errV 20) ∧ Below w.heap.size w w' := by
  obtain ⟨sl, bl, ST, tv, rfl, hc, hcl, ht, hb, rfl, hj⟩ := h.parts
  obtain ⟨jl, jc, ja, jd⟩ := j
  obtain ⟨WA, hWA⟩ : ∃ WA, WA = w.alloc (.cells #[.int .i64 jl, .int .i64 jc, .int .i64 ja, .int .i64 jd] JT) := ⟨_, rfl⟩
  have HB := Lib.hid (show Below w.heap.size w WA from by rw [hWA]; exact (Below.refl _ _).alloc (Nat.le_refl _) _)
  have HW := Lib.hid hWA
  have hcA := (HB.out.cell (p := ⟨bl, 0, none⟩) (cell_lt hc)).trans hc
  have HG := Lib.hid (kget_none ST B A hg.tab (tm T sl) WA tv (ht.below HB.out) x hf)
  obtain ⟨b, g1, c1, g2, c2, g3, c3, rfl, _⟩ := ht
  clear hcl hj hg hWA hf hc hb
  go_enter Tryz.func27, Tryz.ntmps27
  go_upto_region 1 with fail
  rw [← HW.out]
  go_wp2_with fail
  refine HG.out.mono ?_
  rintro e w1 ⟨rfl, hb1⟩
  rw [errV_ne (by decide)]
  have HB1 := Lib.hid (bnext HB.out hb1)
  clear hb1
  go_wp2_with fail
  go_ret
  exact ⟨rfl, HB1.out.alloc HB1.out.size _⟩
set_option maxHeartbeats 4000000 in
set_option maxRecDepth 100000 in
theorem pplpush_some (S X : Nat → Prop) (B : Nat) (A : Tab) (T : Nat → Tk) (la : Int) (hg : PGood A T la) (w : World) (v : Value) (h : Pl S X B w A T la v) (hX : ∀ x, S x → X x) (hXw : ∀ x, X x → x < w.heap.size) (x : Int) (j : Jb) (now : Int) (i : Nat) (hf : A.find x = some i) :
    Calls Tryz.prog 27 #[v, .int .i64 x, jV j, .int .i64 now] w (PlPost S X B w A (if pushE (T i).p (T i).n (T i).f (T i).k j now = 0 then upd T i (tkPush (T i) sN j now) else T) la v (errV (pushE (T i).p (T i).n (T i).f (T i).k j now))) := by
  have HLF := Lib.hid h
  obtain ⟨sl, bl, ST, tv, rfl, hc, hcl, ht, hb, hS, hj⟩ := h.parts
  obtain ⟨jl, jc, ja, jd⟩ := j
  obtain ⟨WA, hWA⟩ : ∃ WA, WA = w.alloc (.cells #[.int .i64 jl, .int .i64 jc, .int .i64 ja, .int .i64 jd] JT) := ⟨_, rfl⟩
  have HB := Lib.hid (show Below w.heap.size w WA from by rw [hWA]; exact (Below.refl _ _).alloc (Nat.le_refl _) _)
  have HJB := Lib.hid (show HasJ WA w.heap.size ⟨jl, jc, ja, jd⟩ from by rw [hWA]; exact has_new _ _ _ rfl)
  have HW := Lib.hid hWA
  have HC := Lib.hid hc
  have hcA := (HB.out.cell (p := ⟨bl, 0, none⟩) (cell_lt hc)).trans hc
  have HG := Lib.hid (kget_some ST B A hg.tab (tm T sl) WA tv (ht.below HB.out) (isSl_tm (w := w) hj) x i hf)
  dsimp only [tm] at HG
  have HJ := Lib.hid (hj i).1
  have hok := hg.ok i
  have HXW := Lib.hid hXw
  obtain ⟨⟨q0, cap0, hs, _⟩, _⟩ := hj i
  rw [hs] at HG HJ
  obtain ⟨t, hti⟩ : ∃ t, t = T i := ⟨_, rfl⟩
  rw [← hti] at HG HJ hok ⊢
  clear hti
  obtain ⟨tp, ts, tn, tf, ⟨kg, ko, kn, kd, kc, kt⟩⟩ := t
  have hn8 := hok.2.1
  dsimp only at HG HJ hn8 ⊢
  have HPU := Lib.hid (fun W (hb : Below w.heap.size w W) => ppush_any tp (.slice q0 tn cap0) tn tf ⟨kg, ko, kn, kd, kc, kt⟩ ⟨jl, jc, ja, jd⟩ now W (HJ.out.below hb) (okT_c hok))
  have HST := Lib.hid (fun W (hb : Below w.heap.size w W) p' q n c f k => kset_some ST B A hg.tab (tm T sl) W tv (ht.below hb) x p' q n c f k i hf)
  have HACT := Lib.hid (fun W' (p : Int) (s : Value) (n : Nat) (f : Nat → Jb) (k : Ac) (ht : PKTab ST B W' A (upd (tm T sl) i ⟨p, s, n, f, k⟩) tv) (hk : Keeps ST w W') (hn : JobsX X W' s n f) => Pl.act (v := .pointer (some ⟨bl, 0, none⟩)) (T := T) rfl hc hcl hb hS hj hX sN ht hk hn)
  have HTX := Lib.hid (show ∀ x, ST x → X x from fun x hx => hX x (by rw [hS]; exact .inr hx))
  obtain ⟨b, g1, c1, g2, c2, g3, c3, rfl, _⟩ := ht
  unfold tkPush
  dsimp only
  have HN8 := Lib.hid hn8
  clear hcl hj hg hWA hf hc hs hS hX hb hok hXw hn8
  obtain ⟨E, hE⟩ : ∃ E, E = pushE tp tn tf ⟨kg, ko, kn, kd, kc, kt⟩ ⟨jl, jc, ja, jd⟩ now := ⟨_, rfl⟩
  rw [← hE] at HPU ⊢
  clear hE
  by_cases hE : E = 0
  · subst hE
    simp only [if_true, errV_0] at HPU ⊢
    go_enter Tryz.func27, Tryz.ntmps27
    go_upto_region 1 with fail
    rw [← HW.out]
    go_wp2_with fail
    refine HG.out.mono ?_
    rintro e w1 ⟨rfl, hb1⟩
    obtain ⟨W1, hW1⟩ : ∃ W1, W1 = w1.alloc (.cells #[.int .i64 tp, .slice q0 tn cap0, .int .i64 kg, .int .i64 ko, .int .i64 kn, .int .i64 kd, .int .i64 kc, .int .i64 kt] KT) := ⟨_, rfl⟩
    have HP1 := Lib.hid (show PushBox w W1 w1.heap.size tp (.slice q0 tn cap0) ⟨kg, ko, kn, kd, kc, kt⟩ jl jc ja jd from by
      rw [hW1]
      have h1 := bnext HB.out hb1
      exact ⟨h1.alloc h1.size _, hasT_new w1 tp _ ⟨kg, ko, kn, kd, kc, kt⟩, has_old (HJB.out.below hb1) _, has_lt (HJB.out.below hb1)⟩)
    have HW2 := Lib.hid hW1
    clear hW1 hb1
    go_upto_region 6 with fail
    rw [← HW2.out]
    obtain ⟨x0, x1, x2, x3, x4, x5, x6, x7⟩ := HP1.out.2.1.cells
    obtain ⟨y0, y1, y2, y3⟩ := HP1.out.2.2.1.cells
    go_wp2_with fail
    refine (HPU.out W1 HP1.out.1).mono ?_
    rintro e w2 ⟨xx, rfl, s2, c2', rfl, ho, hb2⟩
    have HB2 := Lib.hid (bnext HP1.out.1 hb2)
    have HT2 := Lib.hid (HP1.out.2.1.below hb2)
    have HO := Lib.hid ho
    have HBL := Lib.hid (show w.heap.size ≤ w1.heap.size ∧ w1.heap.size < W1.heap.size from ⟨Nat.le_of_lt HP1.out.2.2.2, has_lt HP1.out.2.1⟩)
    clear x0 x1 x2 x3 x4 x5 x6 x7 y0 y1 y2 y3 hb2 ho
    obtain ⟨z0, z1, z2, z3, z4, z5, z6, z7⟩ := HT2.out.cells
    have fr := fun j => has_free HT2.out j
    have HJ3 := Lib.hid (fun (W3 : World) (h3 : W3 = ((((((((w2.setCell ⟨w1.heap.size, 0, none⟩ (.int .i64 tp)).setCell ⟨w1.heap.size, 1, none⟩ (.slice s2 (tn + 1) c2')).setCell ⟨w1.heap.size, 2, none⟩ (.int .i64 kg)).setCell ⟨w1.heap.size, 3, none⟩ (.int .i64 ko)).setCell ⟨w1.heap.size, 4, none⟩ (.int .i64 kn)).setCell ⟨w1.heap.size, 5, none⟩ (.int .i64 kd)).setCell ⟨w1.heap.size, 6, none⟩ (.int .i64 kc)).setCell ⟨w1.heap.size, 7, none⟩ (.int .i64 kt))) =>
      show Below w.heap.size w W3 ∧ HasT W3 w1.heap.size tp (.slice s2 (tn + 1) c2') ⟨kg, ko, kn, kd, kc, kt⟩ ∧ JobsX X W3 (.slice s2 (tn + 1) c2') (tn + 1) (upd tf tn ⟨jl, jc, now, jd⟩) from by
        rw [h3]
        have hbl := HBL.out
        exact ⟨below8 HB2.out hbl.1 _ _ _ _ _ _ _ _, HasT.set8 (k' := ⟨kg, ko, kn, kd, kc, kt⟩) HT2.out, JobsX.own (own_low8 HO.out hbl.2 _ _ _ _ _ _ _ _) (by have := HN8.out; omega) (fun y hy => by have := HXW.out y hy; omega)⟩)
    go_upto_region 9 with fail
    obtain ⟨W3, hW3⟩ : ∃ W3, W3 = ((((((((w2.setCell ⟨w1.heap.size, 0, none⟩ (.int .i64 tp)).setCell ⟨w1.heap.size, 1, none⟩ (.slice s2 (tn + 1) c2')).setCell ⟨w1.heap.size, 2, none⟩ (.int .i64 kg)).setCell ⟨w1.heap.size, 3, none⟩ (.int .i64 ko)).setCell ⟨w1.heap.size, 4, none⟩ (.int .i64 kn)).setCell ⟨w1.heap.size, 5, none⟩ (.int .i64 kd)).setCell ⟨w1.heap.size, 6, none⟩ (.int .i64 kc)).setCell ⟨w1.heap.size, 7, none⟩ (.int .i64 kt)) := ⟨_, rfl⟩
    rw [← hW3]
    have H3 := Lib.hid (HJ3.out W3 hW3)
    clear hW3 z0 z1 z2 z3 z4 z5 z6 z7 fr HJ3
    obtain ⟨x0, x1, x2, x3, x4, x5, x6, x7⟩ := H3.out.2.1.cells
    have hc3 := (H3.out.1.cell (p := ⟨bl, 0, none⟩) (cell_lt HC.out)).trans HC.out
    go_region_law (go_simp; go_at_call 23; refine (HST.out _ H3.out.1.drew tp s2 (tn + 1) c2' (upd tf tn ⟨jl, jc, now, jd⟩) ⟨kg, ko, kn, kd, kc, kt⟩).mono ?_; rintro e w4 ⟨rfl, ht4, hk4⟩)
    all_goals
      have HR := Lib.hid (HACT.out w4 tp _ (tn + 1) (upd tf tn ⟨jl, jc, now, jd⟩) ⟨kg, ko, kn, kd, kc, kt⟩ ht4 (Keeps.trans (Keeps.of_below H3.out.1.drew) hk4) ((H3.out.2.2.below below_drewOne).keeps hk4 HTX.out))
      clear ht4 hk4
      go_wp2_with fail
      go_ret
      exact ⟨rfl, HR.out.1, HR.out.2⟩
  · simp only [if_neg hE] at HPU ⊢
    rw [errV_ne hE] at HPU ⊢
    go_enter Tryz.func27, Tryz.ntmps27
    go_upto_region 1 with fail
    rw [← HW.out]
    go_wp2_with fail
    refine HG.out.mono ?_
    rintro e w1 ⟨rfl, hb1⟩
    obtain ⟨W1, hW1⟩ : ∃ W1, W1 = w1.alloc (.cells #[.int .i64 tp, .slice q0 tn cap0, .int .i64 kg, .int .i64 ko, .int .i64 kn, .int .i64 kd, .int .i64 kc, .int .i64 kt] KT) := ⟨_, rfl⟩
    have HP1 := Lib.hid (show PushBox w W1 w1.heap.size tp (.slice q0 tn cap0) ⟨kg, ko, kn, kd, kc, kt⟩ jl jc ja jd from by
      rw [hW1]
      have h1 := bnext HB.out hb1
      exact ⟨h1.alloc h1.size _, hasT_new w1 tp _ ⟨kg, ko, kn, kd, kc, kt⟩, has_old (HJB.out.below hb1) _, has_lt (HJB.out.below hb1)⟩)
    have HW2 := Lib.hid hW1
    clear hW1 hb1
    go_upto_region 6 with fail
    rw [← HW2.out]
    obtain ⟨x0, x1, x2, x3, x4, x5, x6, x7⟩ := HP1.out.2.1.cells
    obtain ⟨y0, y1, y2, y3⟩ := HP1.out.2.2.1.cells
    go_wp2_with fail
    refine (HPU.out W1 HP1.out.1).mono ?_
    rintro e w2 ⟨xx, rfl, s2, c2', rfl, ho, hb2⟩
    have HB2 := Lib.hid (bnext HP1.out.1 hb2)
    have HT2 := Lib.hid (HP1.out.2.1.below hb2)
    have HO := Lib.hid ho
    have HBL := Lib.hid (show w.heap.size ≤ w1.heap.size ∧ w1.heap.size < W1.heap.size from ⟨Nat.le_of_lt HP1.out.2.2.2, has_lt HP1.out.2.1⟩)
    clear x0 x1 x2 x3 x4 x5 x6 x7 y0 y1 y2 y3 hb2 ho
    obtain ⟨z0, z1, z2, z3, z4, z5, z6, z7⟩ := HT2.out.cells
    have fr := fun j => has_free HT2.out j
    have hbl := HBL.out.1
    have HBF := Lib.hid (fun v0 v1 v2 v3 v4 v5 v6 v7 => below8 HB2.out hbl v0 v1 v2 v3 v4 v5 v6 v7)
    go_wp2_with fail
    go_ret
    exact ⟨rfl, HLF.out.below (HBF.out _ _ _ _ _ _ _ _), Keeps.of_below (HBF.out _ _ _ _ _ _ _ _)⟩
theorem plpush (S X : Nat → Prop) (B : Nat) (A : Tab) (T : Nat → Tk) (la : Int) (hg : PGood A T la) (w : World) (v : Value) (h : Pl S X B w A T la v) (hX : ∀ x, S x → X x) (hXw : ∀ x, X x → x < w.heap.size) (x : Int) (j : Jb) (now : Int) :
    Calls Tryz.prog 27 #[v, .int .i64 x, jV j, .int .i64 now] w (PlPost S X B w A (pushT A T x j now) la v (errV (pushN A T x j now))) := by
  cases hf : A.find x with
  | none =>
    have e1 : pushN A T x j now = 20 := by simp [pushN, hf]
    have e2 : pushT A T x j now = T := by simp [pushT, hf]
    rw [e1, e2]
    exact (pplpush_none S X B A T la hg w v h x j now hf).mono fun e w' ⟨he, hb⟩ => ⟨he, h.below hb, Keeps.of_below hb⟩
  | some i =>
    have e1 : pushN A T x j now = pushE (T i).p (T i).n (T i).f (T i).k j now := by simp [pushN, hf]
    have e2 : pushT A T x j now = if pushE (T i).p (T i).n (T i).f (T i).k j now = 0 then upd T i (tkPush (T i) sN j now) else T := by simp [pushT, hf]
    rw [e1, e2]
    exact pplpush_some S X B A T la hg w v h hX hXw x j now i hf
end Go.Proofs.YtedgchafligndaaGreat
/- The program's pool: Give; no condition but those that each row names. -/
namespace Go.Proofs.YtedgchafligndaaGreat
open Go.RowKit Tsk

set_option maxHeartbeats 2000000 in
set_option maxRecDepth 100000 in
theorem plgive_none (S X : Nat → Prop) (B : Nat) (A : Tab) (T : Nat → Tk) (la : Int) (hg : PGood A T la) (w : World) (v : Value) (h : Pl S X B w A T la v) (now : Int) (hr : nx A T la = -1) :
    Calls Tryz.prog 28 #[v, .int .i64 now] w fun e w' => e = .returned (.tuple #[.int .i64 0, .int .i64 0, .int .i64 0, .bool false]) ∧ Below w.heap.size w w' := by
  have HRD := Lib.hid (plnext S X B A T la hg w v h)
  have hrd : nxH A T la = 0 := by unfold nxH; rw [hr, if_pos (by omega)]
  have hrt : decide (0 ≤ nx A T la) = false := by rw [hr]; rfl
  rw [hrd, hrt] at HRD
  obtain ⟨bl, rfl, _⟩ := h.ptr
  clear hrd hrt hr hg h
  go_enter Tryz.func28, Tryz.ntmps28
  go_wp2_with fail
  refine HRD.out.mono ?_
  rintro e w0 ⟨rfl, hb0⟩
  have HB0 := Lib.hid hb0
  clear hb0
  go_wp2_with fail
  refine bodyPost_ret (v := .tuple #[.int .i64 0, .int .i64 0, .int .i64 0, .bool false]) (by simp [results, Tryz.results28, go_sem]) rfl ⟨rfl, ?_⟩
  exact HB0.out
set_option maxHeartbeats 4000000 in
set_option maxRecDepth 100000 in
theorem plgive_no (S X : Nat → Prop) (B : Nat) (A : Tab) (T : Nat → Tk) (la : Int) (hg : PGood A T la) (w : World) (v : Value) (h : Pl S X B w A T la v) (hX : ∀ x, S x → X x) (hXw : ∀ x, X x → x < w.heap.size) (now : Int) (i : Nat) (hr : nx A T la = i) (hi : i < 16) (hti0 : A.t i = true) (hE : runE (T i).p (T i).n (T i).f (T i).k now ≠ 0) :
    Calls Tryz.prog 28 #[v, .int .i64 now] w (PlPost S X B w A T la v (.tuple #[.int .i64 0, .int .i64 0, .int .i64 0, .bool false])) := by
  have HLF := Lib.hid h
  have HRD := Lib.hid (fun W (hb : Below w.heap.size w W) => plnext S X B A T la hg W v (h.below hb))
  have hrd : nxH A T la = A.hd i := by unfold nxH; rw [hr, if_neg (by omega), Int.toNat_natCast]
  have hrt : decide (0 ≤ nx A T la) = true := by rw [hr]; exact decide_eq_true (by omega)
  rw [hrd, hrt] at HRD
  have hi8 : i < A.gens.length := by rw [hg.len]; exact hi
  have hf : A.find (A.hd i) = some i := find_hd hg.tab hi8 hti0
  obtain ⟨sl, bl, ST, tv, rfl, hc, hcl, ht, hb, hS, hj⟩ := h.parts
  have HC := Lib.hid hc
  have HG := Lib.hid (fun W (hb : Below w.heap.size w W) => kget_some ST B A hg.tab (tm T sl) W tv (ht.below hb) (isSl_tm (w := w) hj) (A.hd i) i hf)
  dsimp only [tm] at HG
  have HJ := Lib.hid (hj i).1
  have hok := hg.ok i
  have HXW := Lib.hid hXw
  obtain ⟨⟨q0, cap0, hs, _⟩, _⟩ := hj i
  rw [hs] at HG HJ
  obtain ⟨t, hti⟩ : ∃ t, t = T i := ⟨_, rfl⟩
  rw [← hti] at HG HJ hok hE
  clear hti
  obtain ⟨tp, ts, tn, tf, ⟨kg, ko, kn, kd, kc, kt⟩⟩ := t
  have hn8 := hok.2.1
  dsimp only at HG HJ hn8 hE
  have HRU := Lib.hid (fun W (hb : Below w.heap.size w W) => prun_any tp (.slice q0 tn cap0) tn tf ⟨kg, ko, kn, kd, kc, kt⟩ now W (HJ.out.below hb) (okT_c hok))
  have HST := Lib.hid (fun W (hb : Below w.heap.size w W) p' q n c f k => kset_some ST B A hg.tab (tm T sl) W tv (ht.below hb) (A.hd i) p' q n c f k i hf)
  have HACT := Lib.hid (fun W' (p : Int) (s : Value) (n : Nat) (f : Nat → Jb) (k : Ac) (ht : PKTab ST B W' A (upd (tm T sl) i ⟨p, s, n, f, k⟩) tv) (hk : Keeps ST w W') (hn : JobsX X W' s n f) => Pl.act (v := .pointer (some ⟨bl, 0, none⟩)) (T := T) rfl hc hcl hb hS hj hX sN ht hk hn)
  have HTX := Lib.hid (show ∀ x, ST x → X x from fun x hx => hX x (by rw [hS]; exact .inr hx))
  have hrn8 : runN tn (tf 0) ≤ 8 := by unfold runN; split <;> omega
  obtain ⟨b, g1, c1, g2, c2, g3, c3, rfl, _⟩ := ht
  have HN8 := Lib.hid hrn8
  clear hcl hj hg hf hc hs hS hX hb hok hXw hn8 hrd hrt hr hti0 hi8 hi hrn8
  generalize A.hd i = hx at *
  obtain ⟨E, hEE⟩ : ∃ E, E = runE tp tn tf ⟨kg, ko, kn, kd, kc, kt⟩ now := ⟨_, rfl⟩
  rw [← hEE] at HRU hE
  clear hEE
  simp only [if_neg hE] at HRU
  rw [errV_ne hE] at HRU
  go_enter Tryz.func28, Tryz.ntmps28
  go_wp2_with fail
  refine (HRD.out w (Below.refl _ _)).mono ?_
  rintro e w0 ⟨rfl, hb0⟩
  have HB0 := Lib.hid hb0
  have hc0 := (hb0.cell (p := ⟨bl, 0, none⟩) (cell_lt HC.out)).trans HC.out
  clear hb0
  go_wp2_with fail
  refine (HG.out w0 HB0.out).mono ?_
  rintro e w1 ⟨rfl, hb1⟩
  obtain ⟨W1, hW1⟩ : ∃ W1, W1 = w1.alloc (.cells #[.int .i64 tp, .slice q0 tn cap0, .int .i64 kg, .int .i64 ko, .int .i64 kn, .int .i64 kd, .int .i64 kc, .int .i64 kt] KT) := ⟨_, rfl⟩
  have HP1 := Lib.hid (show Below w.heap.size w W1 ∧ HasT W1 w1.heap.size tp (.slice q0 tn cap0) ⟨kg, ko, kn, kd, kc, kt⟩ ∧ w.heap.size ≤ w1.heap.size from by
    rw [hW1]
    have h1 := bnext HB0.out hb1
    exact ⟨h1.alloc h1.size _, hasT_new w1 tp _ ⟨kg, ko, kn, kd, kc, kt⟩, h1.size⟩)
  have HW2 := Lib.hid hW1
  clear hW1 hb1 hc0
  go_upto_region 8 with fail
  rw [← HW2.out]
  obtain ⟨x0, x1, x2, x3, x4, x5, x6, x7⟩ := HP1.out.2.1.cells
  go_wp2_with fail
  refine (HRU.out W1 HP1.out.1).mono ?_
  rintro e w2 ⟨xx, rfl, s2, c2', rfl, ho, hb2⟩
  have HB2 := Lib.hid (bnext HP1.out.1 hb2)
  have HT2 := Lib.hid (HP1.out.2.1.below hb2)
  have HO := Lib.hid ho
  have HBL := Lib.hid (show w.heap.size ≤ w1.heap.size ∧ w1.heap.size < W1.heap.size from ⟨HP1.out.2.2, has_lt HP1.out.2.1⟩)
  clear x0 x1 x2 x3 x4 x5 x6 x7 hb2 ho
  obtain ⟨z0, z1, z2, z3, z4, z5, z6, z7⟩ := HT2.out.cells
  have fr := fun j => has_free HT2.out j
  have hbl := HBL.out.1
  have HBF := Lib.hid (fun v0 v1 v2 v3 v4 v5 v6 v7 => below8 HB2.out hbl v0 v1 v2 v3 v4 v5 v6 v7)
  go_wp2_with fail
  refine bodyPost_ret (v := .tuple #[.int .i64 0, .int .i64 0, .int .i64 0, .bool false]) (by simp [results, Tryz.results28, go_sem]) rfl ⟨rfl, ?_⟩
  exact ⟨HLF.out.below (HBF.out _ _ _ _ _ _ _ _), Keeps.of_below (HBF.out _ _ _ _ _ _ _ _)⟩
set_option maxHeartbeats 4000000 in
set_option maxRecDepth 100000 in
theorem plgive_yes (S X : Nat → Prop) (B : Nat) (A : Tab) (T : Nat → Tk) (la : Int) (hg : PGood A T la) (w : World) (v : Value) (h : Pl S X B w A T la v) (hX : ∀ x, S x → X x) (hXw : ∀ x, X x → x < w.heap.size) (now : Int) (i : Nat) (hr : nx A T la = i) (hi : i < 16) (hti0 : A.t i = true) (hE : runE (T i).p (T i).n (T i).f (T i).k now = 0) :
    Calls Tryz.prog 28 #[v, .int .i64 now] w (PlPost S X B w A (upd T i (tkRun (T i) sN now)) i v (.tuple #[.int .i64 (A.hd i), .int .i64 (runW ((T i).f 0)), .int .i64 (runL ((T i).f 0) now), .bool true])) := by
  have HLF := Lib.hid h
  have HRD := Lib.hid (fun W (hb : Below w.heap.size w W) => plnext S X B A T la hg W v (h.below hb))
  have hrd : nxH A T la = A.hd i := by unfold nxH; rw [hr, if_neg (by omega), Int.toNat_natCast]
  have hrt : decide (0 ≤ nx A T la) = true := by rw [hr]; exact decide_eq_true (by omega)
  rw [hrd, hrt] at HRD
  have hi8 : i < A.gens.length := by rw [hg.len]; exact hi
  have hf : A.find (A.hd i) = some i := find_hd hg.tab hi8 hti0
  obtain ⟨sl, bl, ST, tv, rfl, hc, hcl, ht, hb, hS, hj⟩ := h.parts
  have HC := Lib.hid hc
  have HG := Lib.hid (fun W (hb : Below w.heap.size w W) => kget_some ST B A hg.tab (tm T sl) W tv (ht.below hb) (isSl_tm (w := w) hj) (A.hd i) i hf)
  dsimp only [tm] at HG
  have HJ := Lib.hid (hj i).1
  have hok := hg.ok i
  have HXW := Lib.hid hXw
  obtain ⟨⟨q0, cap0, hs, _⟩, _⟩ := hj i
  rw [hs] at HG HJ
  obtain ⟨t, hti⟩ : ∃ t, t = T i := ⟨_, rfl⟩
  rw [← hti] at HG HJ hok hE ⊢
  clear hti
  obtain ⟨tp, ts, tn, tf, ⟨kg, ko, kn, kd, kc, kt⟩⟩ := t
  have hn8 := hok.2.1
  dsimp only at HG HJ hn8 hE ⊢
  have HRU := Lib.hid (fun W (hb : Below w.heap.size w W) => prun_any tp (.slice q0 tn cap0) tn tf ⟨kg, ko, kn, kd, kc, kt⟩ now W (HJ.out.below hb) (okT_c hok))
  have HST := Lib.hid (fun W (hb : Below w.heap.size w W) p' q n c f k => kset_some ST B A hg.tab (tm T sl) W tv (ht.below hb) (A.hd i) p' q n c f k i hf)
  have HACT := Lib.hid (fun W' (p : Int) (s : Value) (n : Nat) (f : Nat → Jb) (k : Ac) (ht : PKTab ST B W' A (upd (tm T sl) i ⟨p, s, n, f, k⟩) tv) (hk : Keeps ST w W') (hn : JobsX X W' s n f) => Pl.act (v := .pointer (some ⟨bl, 0, none⟩)) (T := T) rfl hc hcl hb hS hj hX sN ht hk hn)
  have HTX := Lib.hid (show ∀ x, ST x → X x from fun x hx => hX x (by rw [hS]; exact .inr hx))
  have hrn8 : runN tn (tf 0) ≤ 8 := by unfold runN; split <;> omega
  obtain ⟨b, g1, c1, g2, c2, g3, c3, rfl, _⟩ := ht
  have HN8 := Lib.hid hrn8
  have HSX := Lib.hid hX
  have HSLOT := Lib.hid (fun W => (show Calls Tryz.prog 62 #[.int .i64 (A.hd i)] W fun e w1 => e = .returned (.int .i64 (i : Nat)) ∧ W = w1 from by have h0 := hd_parts hg.tab hi8 hti0; have h1 := slot_ok (A.hd i) W h0.1; rw [h0.2.2.1] at h1; exact h1))
  clear hcl hj hg hf hc hs hS hX hb hok hXw hn8 hrd hrt hr hti0 hi8 hi hrn8
  generalize A.hd i = hx at *
  rw [hE] at HRU
  simp only [if_true, errV_0] at HRU
  unfold tkRun
  dsimp only
  clear hE
  generalize runW (tf 0) = wt at *
  generalize runL (tf 0) now = lt at *
  obtain ⟨kk, hkk⟩ : ∃ kk, kk = runK ⟨kg, ko, kn, kd, kc, kt⟩ (tf 0) now := ⟨_, rfl⟩
  rw [← hkk] at HRU ⊢
  clear hkk
  obtain ⟨rg, ro, rnn, rd, rc, rt⟩ := kk
  generalize runN tn (tf 0) = rn at *
  generalize runF tf = rf at *
  go_enter Tryz.func28, Tryz.ntmps28
  go_wp2_with fail
  refine (HRD.out w (Below.refl _ _)).mono ?_
  rintro e w0 ⟨rfl, hb0⟩
  have HB0 := Lib.hid hb0
  have hc0 := (hb0.cell (p := ⟨bl, 0, none⟩) (cell_lt HC.out)).trans HC.out
  clear hb0
  go_wp2_with fail
  refine (HG.out w0 HB0.out).mono ?_
  rintro e w1 ⟨rfl, hb1⟩
  obtain ⟨W1, hW1⟩ : ∃ W1, W1 = w1.alloc (.cells #[.int .i64 tp, .slice q0 tn cap0, .int .i64 kg, .int .i64 ko, .int .i64 kn, .int .i64 kd, .int .i64 kc, .int .i64 kt] KT) := ⟨_, rfl⟩
  have HP1 := Lib.hid (show Below w.heap.size w W1 ∧ HasT W1 w1.heap.size tp (.slice q0 tn cap0) ⟨kg, ko, kn, kd, kc, kt⟩ ∧ w.heap.size ≤ w1.heap.size from by
    rw [hW1]
    have h1 := bnext HB0.out hb1
    exact ⟨h1.alloc h1.size _, hasT_new w1 tp _ ⟨kg, ko, kn, kd, kc, kt⟩, h1.size⟩)
  have HW2 := Lib.hid hW1
  clear hW1 hb1 hc0
  go_upto_region 8 with fail
  rw [← HW2.out]
  obtain ⟨x0, x1, x2, x3, x4, x5, x6, x7⟩ := HP1.out.2.1.cells
  go_wp2_with fail
  refine (HRU.out W1 HP1.out.1).mono ?_
  rintro e w2 ⟨xx, rfl, s2, c2', rfl, ho, hb2⟩
  have HB2 := Lib.hid (bnext HP1.out.1 hb2)
  have HT2 := Lib.hid (HP1.out.2.1.below hb2)
  have HO := Lib.hid ho
  have HBL := Lib.hid (show w.heap.size ≤ w1.heap.size ∧ w1.heap.size < W1.heap.size from ⟨HP1.out.2.2, has_lt HP1.out.2.1⟩)
  clear x0 x1 x2 x3 x4 x5 x6 x7 hb2 ho
  obtain ⟨z0, z1, z2, z3, z4, z5, z6, z7⟩ := HT2.out.cells
  have fr := fun j => has_free HT2.out j
  have HJ3 := Lib.hid (fun (W3 : World) (h3 : W3 = ((((((((w2.setCell ⟨w1.heap.size, 0, none⟩ (.int .i64 tp)).setCell ⟨w1.heap.size, 1, none⟩ (.slice s2 rn c2')).setCell ⟨w1.heap.size, 2, none⟩ (.int .i64 rg)).setCell ⟨w1.heap.size, 3, none⟩ (.int .i64 ro)).setCell ⟨w1.heap.size, 4, none⟩ (.int .i64 rnn)).setCell ⟨w1.heap.size, 5, none⟩ (.int .i64 rd)).setCell ⟨w1.heap.size, 6, none⟩ (.int .i64 rc)).setCell ⟨w1.heap.size, 7, none⟩ (.int .i64 rt))) =>
    show Below w.heap.size w W3 ∧ HasT W3 w1.heap.size tp (.slice s2 rn c2') ⟨rg, ro, rnn, rd, rc, rt⟩ ∧ JobsX X W3 (.slice s2 rn c2') rn rf from by
      rw [h3]
      have hbl := HBL.out
      exact ⟨below8 HB2.out hbl.1 _ _ _ _ _ _ _ _, HasT.set8 (k' := ⟨rg, ro, rnn, rd, rc, rt⟩) HT2.out, JobsX.own (own_low8 HO.out hbl.2 _ _ _ _ _ _ _ _) (by have := HN8.out; omega) (fun y hy => by have := HXW.out y hy; omega)⟩)
  go_upto_region 11 with fail
  obtain ⟨W3, hW3⟩ : ∃ W3, W3 = ((((((((w2.setCell ⟨w1.heap.size, 0, none⟩ (.int .i64 tp)).setCell ⟨w1.heap.size, 1, none⟩ (.slice s2 rn c2')).setCell ⟨w1.heap.size, 2, none⟩ (.int .i64 rg)).setCell ⟨w1.heap.size, 3, none⟩ (.int .i64 ro)).setCell ⟨w1.heap.size, 4, none⟩ (.int .i64 rnn)).setCell ⟨w1.heap.size, 5, none⟩ (.int .i64 rd)).setCell ⟨w1.heap.size, 6, none⟩ (.int .i64 rc)).setCell ⟨w1.heap.size, 7, none⟩ (.int .i64 rt)) := ⟨_, rfl⟩
  rw [← hW3]
  have H3 := Lib.hid (HJ3.out W3 hW3)
  clear hW3 z0 z1 z2 z3 z4 z5 z6 z7 fr HJ3
  obtain ⟨x0, x1, x2, x3, x4, x5, x6, x7⟩ := H3.out.2.1.cells
  have hc3 := (H3.out.1.cell (p := ⟨bl, 0, none⟩) (cell_lt HC.out)).trans HC.out
  go_region_law (go_simp; go_at_call 23; refine (HST.out _ H3.out.1.drew tp s2 rn c2' rf ⟨rg, ro, rnn, rd, rc, rt⟩).mono ?_; rintro e w4 ⟨rfl, ht4, hk4⟩)
  all_goals
    have HR := Lib.hid (HACT.out w4 tp _ rn rf ⟨rg, ro, rnn, rd, rc, rt⟩ ht4 (Keeps.trans (Keeps.of_below H3.out.1.drew) hk4) ((H3.out.2.2.below below_drewOne).keeps hk4 HTX.out))
    clear ht4 hk4
    go_wp2_with fail
    refine (HSLOT.out w4).mono ?_
    rintro e w5 ⟨rfl, rfl⟩
    obtain ⟨_, _, _, _, e5, _, hl5, _⟩ := HR.out.1.parts
    cases e5
    obtain ⟨q5, f5⟩ := hl5
    have HFIN := Lib.hid (HR.out.1.last HSX.out (i : Int))
    go_wp2_with fail
    refine bodyPost_ret (v := .tuple #[.int .i64 hx, .int .i64 wt, .int .i64 lt, .bool true]) (by simp [results, Tryz.results28, go_sem]) rfl ⟨rfl, ?_⟩
    exact ⟨HFIN.out.1, HR.out.2.trans HFIN.out.2⟩
theorem plgive (S X : Nat → Prop) (B : Nat) (A : Tab) (T : Nat → Tk) (la : Int) (hg : PGood A T la) (w : World) (v : Value) (h : Pl S X B w A T la v) (hX : ∀ x, S x → X x) (hXw : ∀ x, X x → x < w.heap.size) (now : Int) :
    Calls Tryz.prog 28 #[v, .int .i64 now] w (PlPost S X B w A (gvT A T la now) (gvN A T la now) v (.tuple #[.int .i64 (gvH A T la now), .int .i64 (gvW A T la now), .int .i64 (gvL A T la now), .bool (gvU A T la now)])) := by
  rcases give_ways A T la now with ⟨hu, h1, h2, h3, h4, h5, hz | ⟨i, hz, hi, hti, hE⟩⟩ | ⟨i, hz, hi, hti, hE, hu, h1, h2, h3, h4, h5⟩
  · rw [hu, h1, h2, h3, h4, h5]
    exact (plgive_none S X B A T la hg w v h now hz).mono fun e w' ⟨he, hb⟩ => ⟨he, h.below hb, Keeps.of_below hb⟩
  · rw [hu, h1, h2, h3, h4, h5]
    exact plgive_no S X B A T la hg w v h hX hXw now i hz hi hti hE
  · rw [hu, h1, h2, h3, h4, h5]
    exact plgive_yes S X B A T la hg w v h hX hXw now i hz hi hti hE
end Go.Proofs.YtedgchafligndaaGreat
/- The document's own task: Same; no condition but those that each row names. -/
namespace Go.Proofs.YtedgchafligndaaGreat
open Go.RowKit Tsk

/-- Are two tasks alike? -/
def sameT (p : Int) (n : Nat) (f : Nat → Jb) (k : Ac) (p' : Int) (n' : Nat) (f' : Nat → Jb) (k' : Ac) : Prop := p = p' ∧ k = k' ∧ n = n' ∧ ∀ i, i < n → f i = f' i
theorem neq_ac {g o m d c t g' o' m' d' c' t' : Int} (h : ¬ (⟨g, o, m, d, c, t⟩ : Ac) = ⟨g', o', m', d', c', t'⟩) : ¬ (g = g' ∧ o = o' ∧ m = m' ∧ d = d' ∧ c = c' ∧ t = t') := fun ⟨h1, h2, h3, h4, h5, h6⟩ => h (by rw [h1, h2, h3, h4, h5, h6])
theorem neq_jb {l c a d l' c' a' d' : Int} (h : ¬ (⟨l, c, a, d⟩ : Jb) = ⟨l', c', a', d'⟩) : ¬ (l = l' ∧ c = c' ∧ a = a' ∧ d = d') := fun ⟨h1, h2, h3, h4⟩ => h (by rw [h1, h2, h3, h4])
set_option maxHeartbeats 2000000 in
theorem rsame_acc (p : Int) (q q' : Option Addr) (n n' cap cap' : Nat) (k k' : Ac) (w : World) (hk : ¬ k = k') : Calls Tryz.prog 32 #[tV p (.slice q n cap) k, tV p (.slice q' n' cap') k'] w fun e w' => e = .returned (.bool false) ∧ Below w.heap.size w w' := by
  obtain ⟨kg, ko, kn, kd, kc, kt⟩ := k
  obtain ⟨kg', ko', kn', kd', kc', kt'⟩ := k'
  have hk2 := neq_ac hk
  go_enter Tryz.func32, Tryz.ntmps32
  go_wp2_with fail
  all_goals (go_ret; exact ⟨rfl, (by repeat (first | exact Below.refl _ _ | (with_reducible assumption) | refine Below.drew ?_ | (refine Below.alloc ?_ (by first | exact Nat.le_refl _ | omega | (simp; done) | (simp; omega)) _) | (refine Below.setCell ?_ (by first | omega | (simp; done) | (simp; omega)) _)))⟩)
theorem rsame_prio (p p' : Int) (q q' : Option Addr) (n n' cap cap' : Nat) (k k' : Ac) (w : World) (hp : ¬ p = p') : Calls Tryz.prog 32 #[tV p (.slice q n cap) k, tV p' (.slice q' n' cap') k'] w fun e w' => e = .returned (.bool false) ∧ Below w.heap.size w w' := by
  obtain ⟨kg, ko, kn, kd, kc, kt⟩ := k
  obtain ⟨kg', ko', kn', kd', kc', kt'⟩ := k'
  have hp2 : (p != p') = true := by simpa using hp
  clear hp
  go_enter Tryz.func32, Tryz.ntmps32
  go_wp2_with fail
  go_ret
  exact ⟨rfl, (by repeat (first | exact Below.refl _ _ | (with_reducible assumption) | refine Below.drew ?_ | (refine Below.alloc ?_ (by first | exact Nat.le_refl _ | omega | (simp; done) | (simp; omega)) _) | (refine Below.setCell ?_ (by first | omega | (simp; done) | (simp; omega)) _)))⟩
theorem rsame_len (p : Int) (q q' : Option Addr) (n n' cap cap' : Nat) (k : Ac) (w : World) (hn : ¬ n = n') : Calls Tryz.prog 32 #[tV p (.slice q n cap) k, tV p (.slice q' n' cap') k] w fun e w' => e = .returned (.bool false) ∧ Below w.heap.size w w' := by
  obtain ⟨kg, ko, kn, kd, kc, kt⟩ := k
  have hp2 : ((n : Int) != (n' : Int)) = true := by simp; omega
  have hp3 : (n != n') = true := by simpa using hn
  clear hn
  go_enter Tryz.func32, Tryz.ntmps32
  go_wp2_with fail
  go_ret
  exact ⟨rfl, (by repeat (first | exact Below.refl _ _ | (with_reducible assumption) | refine Below.drew ?_ | (refine Below.alloc ?_ (by first | exact Nat.le_refl _ | omega | (simp; done) | (simp; omega)) _) | (refine Below.setCell ?_ (by first | omega | (simp; done) | (simp; omega)) _)))⟩
set_option maxHeartbeats 2000000 in
theorem rsame_jobs (p : Int) (s s' : Value) (n : Nat) (f f' : Nat → Jb) (k : Ac) (w : World) (h : Jobs w s n f) (h' : Jobs w s' n f') : Calls Tryz.prog 32 #[tV p s k, tV p s' k] w fun e w' => e = .returned (.bool (decide (∀ i, i < n → f i = f' i))) ∧ Below w.heap.size w w' := by
  have HJ := Lib.hid h
  have HJ' := Lib.hid h'
  obtain ⟨q, cap, rfl, hnl, _⟩ := h
  obtain ⟨q', cap', rfl, _, _⟩ := h'
  obtain ⟨WA, hWA⟩ : ∃ WA, WA = (w.alloc (.cells #[.int .i64 p, .slice q n cap, .int .i64 k.g, .int .i64 k.o, .int .i64 k.n, .int .i64 k.d, .int .i64 k.c, .int .i64 k.t] KT)).alloc (.cells #[.int .i64 p, .slice q' n cap', .int .i64 k.g, .int .i64 k.o, .int .i64 k.n, .int .i64 k.d, .int .i64 k.c, .int .i64 k.t] KT) := ⟨_, rfl⟩
  have HB := Lib.hid (show Below w.heap.size w WA from by rw [hWA]; exact ((Below.refl _ _).alloc (Nat.le_refl _) _).alloc (by simp) _)
  have HT := Lib.hid (show HasT WA w.heap.size p (.slice q n cap) k ∧ HasT WA (w.heap.size + 1) p (.slice q' n cap') k from by rw [hWA]; exact ⟨has_old (has_new w _ _ rfl) _, has_new _ _ _ (by simp)⟩)
  have HW := Lib.hid hWA
  obtain ⟨kg, ko, kn, kd, kc, kt⟩ := k
  clear hWA
  go_enter Tryz.func32, Tryz.ntmps32
  go_wp2_with fail
  rw [← HW.out]
  go_loopw [5] (fun iv wr => ∃ i : Nat, iv = .int .i64 i ∧ i ≤ n ∧ Hid (∀ j, j < i → f j = f' j) ∧ Hid (Below WA.heap.size WA wr)) (fun iv _ => n - (intOf iv).toNat)
  case atStart => exact ⟨0, rfl, Nat.zero_le _, Lib.hid (fun j hj => by omega), Lib.hid (Below.refl _ _)⟩
  case round =>
    obtain ⟨i, rfl, hi, HE, HBr⟩ := hrel
    obtain ⟨_, x1, _⟩ := (HT.out.1.below HBr.out).cells
    obtain ⟨_, y1, _⟩ := (HT.out.2.below HBr.out).cells
    have HBw := Lib.hid (bnext HB.out HBr.out)
    by_cases hin : i < n
    · have hin' : (i : Int) < (n : Int) := by omega
      obtain ⟨q0, cap0, e, _, hcl⟩ := HJ.out.below HBw.out
      cases e
      obtain ⟨b, off, rfl, d0, d1, d2, d3⟩ := hcl i hin
      obtain ⟨q1, cap1, e, _, hcl'⟩ := HJ'.out.below HBw.out
      cases e
      obtain ⟨b', off', rfl, e0, e1, e2, e3⟩ := hcl' i hin
      clear hcl hcl'
      by_cases heq : f i = f' i
      · have HE2 := Lib.hid (show ∀ j, j < i + 1 → f j = f' j from fun j hj => by
          rcases Nat.lt_succ_iff_lt_or_eq.1 hj with h | h
          · exact HE.out j h
          · rw [h]; exact heq)
        rw [heq] at d0 d1 d2 d3
        generalize f' i = jb at *
        obtain ⟨l, c, a, d⟩ := jb
        dsimp only at d0 d1 d2 d3 e0 e1 e2 e3
        clear heq
        go_wp2_with fail
        go_quiet (fail)
        have HBq := Lib.hid (below_drewN HBr.out nq)
        go_wp2_with fail
        go_roundw
        case rel => exact ⟨i + 1, by go_num, by omega, HE2, HBq⟩
        case measure => simp [intOf]; omega
      · have HF := Lib.hid (show decide (∀ i, i < n → f i = f' i) = false from decide_eq_false (fun h => heq (h i hin)))
        generalize f i = jb at *
        generalize f' i = jb' at *
        obtain ⟨l, c, a, d⟩ := jb
        obtain ⟨l', c', a', d'⟩ := jb'
        dsimp only at d0 d1 d2 d3 e0 e1 e2 e3
        have hne := neq_jb heq
        clear heq
        by_cases hl : l = l'
        · subst hl
          by_cases hc : c = c'
          · subst hc
            by_cases ha : a = a'
            · subst ha
              have hd : ¬ d = d' := fun h => hne ⟨rfl, rfl, rfl, h⟩
              have z : (d == d') = false := by simpa using hd
              clear hne hd
              go_wp2_with fail
              go_quiet (fail)
              have HBq := Lib.hid (below_drewN HBw.out nq)
              go_wp2_with fail
              go_ret
              exact ⟨ret_bool HF.out.symm, HBq.out⟩
            · have z : (a == a') = false := by simpa using ha
              clear hne ha
              go_wp2_with fail
              go_quiet (fail)
              have HBq := Lib.hid (below_drewN HBw.out nq)
              go_wp2_with fail
              go_ret
              exact ⟨ret_bool HF.out.symm, HBq.out⟩
          · have z : (c == c') = false := by simpa using hc
            clear hne hc
            go_wp2_with fail
            go_quiet (fail)
            have HBq := Lib.hid (below_drewN HBw.out nq)
            go_wp2_with fail
            go_ret
            exact ⟨ret_bool HF.out.symm, HBq.out⟩
        · have z : (l == l') = false := by simpa using hl
          clear hne hl
          go_wp2_with fail
          go_quiet (fail)
          have HBq := Lib.hid (below_drewN HBw.out nq)
          go_wp2_with fail
          go_ret
          exact ⟨ret_bool HF.out.symm, HBq.out⟩
    · have hg3 : decide (i < n) = false := decide_eq_false hin
      obtain rfl : i = n := by omega
      have HF := Lib.hid (show decide (∀ j, j < i → f j = f' j) = true from decide_eq_true HE.out)
      clear hin
      go_wp2_with fail
      go_ret
      exact ⟨ret_bool HF.out.symm, HBw.out⟩
instance (p : Int) (n : Nat) (f : Nat → Jb) (k : Ac) (p' : Int) (n' : Nat) (f' : Nat → Jb) (k' : Ac) : Decidable (sameT p n f k p' n' f' k') := by unfold sameT; infer_instance
/-- Same, every way. -/
theorem rsame_any (p : Int) (s : Value) (n : Nat) (f : Nat → Jb) (k : Ac) (p' : Int) (s' : Value) (n' : Nat) (f' : Nat → Jb) (k' : Ac) (w : World) (h : Jobs w s n f) (h' : Jobs w s' n' f') :
    Calls Tryz.prog 32 #[tV p s k, tV p' s' k'] w fun e w' => e = .returned (.bool (decide (sameT p n f k p' n' f' k'))) ∧ Below w.heap.size w w' := by
  by_cases hp : p = p'
  · subst hp
    by_cases hk : k = k'
    · subst hk
      by_cases hn : n = n'
      · subst hn
        have e : decide (sameT p n f k p n f' k) = decide (∀ i, i < n → f i = f' i) := decide_eq_decide.2 ⟨fun h => h.2.2.2, fun h => ⟨rfl, rfl, rfl, h⟩⟩
        rw [e]
        exact rsame_jobs p s s' n f f' k w h h'
      · rw [show decide (sameT p n f k p n' f' k) = false from decide_eq_false (fun h => hn h.2.2.1)]
        obtain ⟨q, cap, rfl, _, _⟩ := h
        obtain ⟨q', cap', rfl, _, _⟩ := h'
        exact rsame_len p q q' n n' cap cap' k w hn
    · rw [show decide (sameT p n f k p n' f' k') = false from decide_eq_false (fun h => hk h.2.1)]
      obtain ⟨q, cap, rfl, _, _⟩ := h
      obtain ⟨q', cap', rfl, _, _⟩ := h'
      exact rsame_acc p q q' n n' cap cap' k k' w hk
  · rw [show decide (sameT p n f k p' n' f' k') = false from decide_eq_false (fun h => hp h.1)]
    obtain ⟨q, cap, rfl, _, _⟩ := h
    obtain ⟨q', cap', rfl, _, _⟩ := h'
    exact rsame_prio p p' q q' n n' cap cap' k k' w hp
end Go.Proofs.YtedgchafligndaaGreat
/- The law's own handles and saved: true where the program's pool and the document's are of one table, one row of tasks, one last one; no condition but those that each row names. -/
namespace Go.Proofs.YtedgchafligndaaGreat
open Go.RowKit Tsk

set_option maxHeartbeats 1000000 in
set_option maxRecDepth 100000 in
theorem handles_same (S T : Nat → Prop) (l : List Int) (a b : Value) (w : World) (ha : Lst S w a (ints l)) (hb : Lst T w b (ints l)) :
    Calls Tryz.prog 35 #[a, b] w fun e w' => e = .returned (.bool true) ∧ Below w.heap.size w w' := by
  obtain ⟨p, cp, rfl, hm, hg⟩ := ha
  obtain ⟨q, cq, rfl, _, ht⟩ := hb
  have e1 := ints_len l
  rw [e1] at hm ⊢
  have HG := Lib.hid hg
  have HT := Lib.hid ht
  clear hg ht e1
  go_enter Tryz.func35, Tryz.ntmps35
  go_wp2_with fail
  go_loopw [5] (fun i wr => ∃ k : Nat, k ≤ l.length ∧ i = .int .i64 k ∧ Below w.heap.size w wr) (fun i _ => l.length - (intOf i).toNat)
  case atStart => exact ⟨0, Nat.zero_le _, rfl, Below.refl _ _⟩
  case round =>
    obtain ⟨k, hk, rfl, hbw⟩ := hrel
    by_cases hlt : k < l.length
    · obtain ⟨b1, o1, rfl, _, hd1⟩ := HG.out k _ (ints_at hlt)
      obtain ⟨b2, o2, rfl, _, hd2⟩ := HT.out k _ (ints_at hlt)
      have hc1 : wr.cell? ⟨b1, o1 + k, none⟩ = _ := (hbw.cell (p := ⟨b1, o1 + k, none⟩) (cell_lt hd1)).trans hd1
      have hc2 : wr.cell? ⟨b2, o2 + k, none⟩ = _ := (hbw.cell (p := ⟨b2, o2 + k, none⟩) (cell_lt hd2)).trans hd2
      clear hd1 hd2
      have z0 : (0 : Int) ≤ (k : Int) := by omega
      have z1 : (k : Int) < (l.length : Int) := by omega
      generalize l.getD k 0 = g at *
      go_wp2_with fail
      go_quiet (fail)
      go_wp2_with fail
      go_roundw
      case rel => exact ⟨k + 1, by omega, by go_num, below_drewN hbw _⟩
      case measure => simp [intOf]; omega
    · go_wp2_with fail
      go_ret
      exact ⟨rfl, hbw⟩

theorem lst_sh {w : World} {v : Value} {xs : List Value} {m : Nat} (h : Lst (fun _ => False) w v xs) (e : xs.length = m) : ∃ p c, v = .slice p m c ∧ ∀ W, Below w.heap.size w W → ∀ j x, xs[j]? = some x → ∃ b off, p = some ⟨b, off, none⟩ ∧ W.cell? ⟨b, off + j, none⟩ = some x := by
  obtain ⟨p, c, rfl, _, hc⟩ := h
  exact ⟨p, c, by rw [e], fun W hb j x hx => by
    obtain ⟨b, off, e2, _, hcell⟩ := hc j x hx
    exact ⟨b, off, e2, (hb.cell (p := ⟨b, off + j, none⟩) (cell_lt hcell)).trans hcell⟩⟩
/-- The document's pool in its block, all that came before as it was. -/
def SvW (w WA : World) (gs ts ks : Value) (la : Int) (W : World) : Prop :=
  W.cell? ⟨w.heap.size, 0, none⟩ = some gs ∧ W.cell? ⟨w.heap.size, 1, none⟩ = some ts ∧ W.cell? ⟨w.heap.size, 2, none⟩ = some ks ∧ W.cell? ⟨w.heap.size, 3, none⟩ = some (.int .i64 la) ∧ Below w.heap.size w W ∧ Below WA.heap.size WA W
set_option maxHeartbeats 4000000 in
set_option maxRecDepth 100000 in
theorem saved_yes (S X X2 : Nat → Prop) (B : Nat) (A : Tab) (T : Nat → Tk) (la : Int) (hg : PGood A T la) (v gs ts ks : Value) (w : World) (h : Pl S X B w A T la v) (hd : DP X2 w A T gs ts ks) :
    Calls Tryz.prog 10 #[v, pv gs ts ks la] w fun e w' => e = .returned (.bool true) ∧ Below w.heap.size w w' := by
  have hn16 : A.idxs.length ≤ 16 := by have := idxTo_len A.t A.n; have e8 : A.n = 16 := hg.len; show (idxTo A.t A.n).length ≤ 16; omega
  have HPS := Lib.hid (fun W (hb : Below w.heap.size w W) => plsave S X B A T la hg W v (h.below hb))
  have HRS := Lib.hid (fun W (hb : Below w.heap.size w W) => rsave14 X2 A T la hg gs ts ks W (hd.below hb))
  have HPN := Lib.hid (fun W (hb : Below w.heap.size w W) => plnext S X B A T la hg W v (h.below hb))
  have HRN := Lib.hid (fun W (hb : Below w.heap.size w W) => rNext14 X2 A T la hg gs ts ks W (hd.below hb))
  have HPR := Lib.hid (fun W (hb : Below w.heap.size w W) => plready S X B A T la hg W v (h.below hb))
  have HPL := Lib.hid (fun W (hb : Below w.heap.size w W) => pllist S X (fun _ => False) B A T la hg W v (h.below hb) (fun _ k => k.elim))
  have HRL := Lib.hid (fun W (hb : Below w.heap.size w W) => rlist14 X2 A T la hg gs ts ks W (hd.below hb))
  have HHS := Lib.hid (fun a b W (ha : Lst (fun _ => False) W a (ints A.all)) (hb : Lst (fun _ => False) W b (ints A.all)) => handles_same _ _ A.all a b W ha hb)
  have HLT := Lib.hid (show A.taken.length = A.gens.length from hg.tab.lt)
  have HLN := Lib.hid (show A.gens.length = 16 from hg.len)
  unfold SavePl at HPS
  unfold SaveR14 at HRS
  unfold AllPost at HPL
  unfold ListP at HRL
  generalize nxH A T la = nh at *
  generalize decide (0 ≤ nx A T la) = nb at *
  obtain ⟨bl, rfl, _⟩ := id h.ptr
  obtain ⟨p1, cp1, p2, cp2, p3, cp3, _, rfl, rfl, rfl, _⟩ := hd.shape hg
  obtain ⟨WA, hWA⟩ : ∃ WA, WA = w.alloc (.cells #[.slice p1 16 cp1, .slice p2 16 cp2, .slice p3 16 cp3, .int .i64 la] PT14) := ⟨_, rfl⟩
  have HB := Lib.hid (show Below w.heap.size w WA from by rw [hWA]; exact (Below.refl _ _).alloc (Nat.le_refl _) _)
  have HT := Lib.hid (show HasP WA w.heap.size (.slice p1 16 cp1) (.slice p2 16 cp2) (.slice p3 16 cp3) la from by rw [hWA]; exact hasP_new _ _ _ _ _)
  have HX := Lib.hid (fun W (hW : Below WA.heap.size WA W) => show SvW w WA (.slice p1 16 cp1) (.slice p2 16 cp2) (.slice p3 16 cp3) la W from by
    obtain ⟨a0, a1, a2, a3⟩ := (HT.out.below hW).cells
    exact ⟨a0, a1, a2, a3, bnext HB.out hW, hW⟩)
  unfold SvW at HX
  have HW := Lib.hid hWA
  clear hWA hd h hg
  go_enter Tryz.func10, Tryz.ntmps10
  go_upto_region 1 with fail
  rw [← HW.out]
  obtain ⟨a0, a1, a2, a3, _, _⟩ := HX.out WA (Below.refl _ _)
  go_wp2_with fail
  refine (HPS.out WA HB.out).mono ?_
  rintro e w2 ⟨gv, tv, g, c, sl, rfl, hg1, ht1, hk1, hb2⟩
  obtain ⟨pg, cg, rfl, HG⟩ := lst_sh hg1 (show (ints A.gens).length = 16 from (ints_len _).trans HLN.out)
  obtain ⟨pt, ct, rfl, HT1⟩ := lst_sh ht1 (show (bools A.taken).length = 16 from ((bools_len _).trans HLT.out).trans HLN.out)
  have HG := Lib.hid HG
  have HT1 := Lib.hid HT1
  have HK1 := Lib.hid hk1
  have HB2 := Lib.hid hb2
  clear a0 a1 a2 a3
  obtain ⟨a0, a1, a2, a3, _, _⟩ := HX.out w2 HB2.out
  clear hg1 ht1 hk1 hb2
  go_wp2_with fail
  refine (HRS.out w2 (bnext HB.out HB2.out)).mono ?_
  rintro e w3 ⟨gv2, tv2, xv, sl2, rfl, hg2, ht2, hk2, hb3⟩
  obtain ⟨pg2, cg2, rfl, HG2⟩ := lst_sh (hg2.mono (fun _ _ k => k.elim)) (show (ints A.gens).length = 16 from (ints_len _).trans HLN.out)
  obtain ⟨pt2, ct2, rfl, HT2⟩ := lst_sh (ht2.mono (fun _ _ k => k.elim)) (show (bools A.taken).length = 16 from ((bools_len _).trans HLT.out).trans HLN.out)
  obtain ⟨px, cx, rfl, hm3, _⟩ := id hk2.tk
  have HG2 := Lib.hid HG2
  have HT2 := Lib.hid HT2
  have HK2 := Lib.hid hk2.tk
  have HB3 := Lib.hid (bnext HB2.out hb3)
  have HQ3 := Lib.hid hb3
  clear hg2 ht2 hk2 hb3 a0 a1 a2 a3 HRS HPS
  generalize hnn : A.idxs.length = n at *
  have HNN := Lib.hid hnn
  clear hnn
  go_wp2_with fail
  go_loopw [13] (fun iv wy => ∃ j : Nat, iv = .int .i64 j ∧ j ≤ 16 ∧ Hid (Below w3.heap.size w3 wy)) (fun iv _ => 16 - (intOf iv).toNat)
  case atStart => exact ⟨0, rfl, Nat.zero_le _, Lib.hid (Below.refl _ _)⟩
  case round =>
    obtain ⟨j, rfl, hjm, HBY⟩ := hrel
    have v0 : (0 : Int) ≤ (j : Int) := by omega
    by_cases hj : j < 16
    · have v1 : (j : Int) < 16 := by omega
      obtain ⟨b1, o1, rfl, hd1⟩ := HG.out _ (bnext HQ3.out HBY.out) j _ (ints_at (by rw [HLN.out]; exact hj))
      obtain ⟨b2, o2, rfl, hd2⟩ := HT1.out _ (bnext HQ3.out HBY.out) j _ (bools_at (by rw [HLT.out, HLN.out]; exact hj))
      obtain ⟨b3, o3, rfl, hd3⟩ := HG2.out _ HBY.out j _ (ints_at (by rw [HLN.out]; exact hj))
      obtain ⟨b4, o4, rfl, hd4⟩ := HT2.out _ HBY.out j _ (bools_at (by rw [HLT.out, HLN.out]; exact hj))
      generalize A.gens.getD j 0 = gj at *
      generalize A.taken.getD j false = tj at *
      go_wp2_with fail
      go_quiet (fail)
      go_wp2_with fail
      go_roundw
      case rel => exact ⟨j + 1, by go_num, by omega, Lib.hid (below_drewN HBY.out _)⟩
      case measure => simp [intOf]; omega
    · go_wp2_with fail
      go_loopw [14] (fun iv wz => ∃ i : Nat, iv = .int .i64 i ∧ i ≤ n ∧ Hid (Below w3.heap.size w3 wz)) (fun iv _ => n - (intOf iv).toNat)
      case atStart => exact ⟨0, rfl, Nat.zero_le _, HBY⟩
      case round =>
        clear HBY
        obtain ⟨i, rfl, hin, HBZ⟩ := hrel
        have s0 : (0 : Int) ≤ (i : Int) := by omega
        by_cases hi : i < n
        · have s1 : (i : Int) < (n : Int) := by omega
          obtain ⟨_, _, e1, _, hc1⟩ := (HK1.out.below HQ3.out).below HBZ.out
          obtain ⟨_, _, e2, _, hc2⟩ := HK2.out.below HBZ.out
          simp only [Value.slice.injEq] at e1 e2
          obtain ⟨b1, o1, f1, d0, d1, d2, d3, d4, d5, d6, d7, hJ1⟩ := hc1 i hi
          obtain ⟨b2, o2, f2, g0, g1, g2, g3, g4, g5, g6, g7, hJ2⟩ := hc2 i hi
          obtain ⟨e1, -, -⟩ := e1
          obtain ⟨e2, -, -⟩ := e2
          subst e1 e2
          subst f2
          have f1' : b1 = g ∧ o1 = 0 := by
            simp only [Option.some.injEq, Addr.mk.injEq] at f1
            exact ⟨f1.1.symm, f1.2.1.symm⟩
          obtain ⟨rfl, rfl⟩ := f1'
          obtain ⟨t, hti⟩ : ∃ t, t = toldF A T i := ⟨_, rfl⟩
          dsimp only [tm] at d0 d1 d2 d3 d4 d5 d6 d7 g0 g1 g2 g3 g4 g5 g6 g7 hJ1 hJ2
          rw [← hti] at d0 d2 d3 d4 d5 d6 d7 g0 g2 g3 g4 g5 g6 g7 hJ1 hJ2
          obtain ⟨tp, ts, tn, tf, ⟨kg, ko, kn, kd, kc, kt⟩⟩ := t
          dsimp only at d0 d1 d2 d3 d4 d5 d6 d7 g0 g1 g2 g3 g4 g5 g6 g7 hJ1 hJ2
          have HSM := Lib.hid (fun W (hb : Below wr.heap.size wr W) => rsame_any tp (sl i) tn tf ⟨kg, ko, kn, kd, kc, kt⟩ tp (sl2 i) tn tf ⟨kg, ko, kn, kd, kc, kt⟩ W (hJ1.below hb) (hJ2.below hb))
          rw [show decide (sameT tp tn tf ⟨kg, ko, kn, kd, kc, kt⟩ tp tn tf ⟨kg, ko, kn, kd, kc, kt⟩) = true from decide_eq_true ⟨rfl, rfl, rfl, fun _ _ => rfl⟩] at HSM
          generalize sl i = si at *
          generalize sl2 i = sj at *
          obtain ⟨qa, ka, rfl, _⟩ := hJ1
          obtain ⟨qb, kb, rfl, _⟩ := hJ2
          rw [Nat.zero_add] at d0 d1 d2 d3 d4 d5 d6 d7
          clear hti hc1 hc2
          have HY := Lib.hid (fun W (hb : Below wr.heap.size wr W) => show W.cell? ⟨b1, i * 8, none⟩ = some (.int .i64 tp) ∧ W.cell? ⟨b1, i * 8 + 1, none⟩ = some (.slice qa tn ka) ∧ W.cell? ⟨b1, i * 8 + 2, none⟩ = some (.int .i64 kg) ∧ W.cell? ⟨b1, i * 8 + 3, none⟩ = some (.int .i64 ko) ∧ W.cell? ⟨b1, i * 8 + 4, none⟩ = some (.int .i64 kn) ∧ W.cell? ⟨b1, i * 8 + 5, none⟩ = some (.int .i64 kd) ∧ W.cell? ⟨b1, i * 8 + 6, none⟩ = some (.int .i64 kc) ∧ W.cell? ⟨b1, i * 8 + 7, none⟩ = some (.int .i64 kt) ∧ W.cell? ⟨b2, o2 + i * 8, none⟩ = some (.int .i64 tp) ∧ W.cell? ⟨b2, o2 + i * 8 + 1, none⟩ = some (.slice qb tn kb) ∧ W.cell? ⟨b2, o2 + i * 8 + 2, none⟩ = some (.int .i64 kg) ∧ W.cell? ⟨b2, o2 + i * 8 + 3, none⟩ = some (.int .i64 ko) ∧ W.cell? ⟨b2, o2 + i * 8 + 4, none⟩ = some (.int .i64 kn) ∧ W.cell? ⟨b2, o2 + i * 8 + 5, none⟩ = some (.int .i64 kd) ∧ W.cell? ⟨b2, o2 + i * 8 + 6, none⟩ = some (.int .i64 kc) ∧ W.cell? ⟨b2, o2 + i * 8 + 7, none⟩ = some (.int .i64 kt) ∧ Below wr.heap.size wr W from
            ⟨(hb.cell (p := ⟨b1, i * 8, none⟩) (cell_lt d0)).trans d0, (hb.cell (p := ⟨b1, i * 8 + 1, none⟩) (cell_lt d1)).trans d1, (hb.cell (p := ⟨b1, i * 8 + 2, none⟩) (cell_lt d2)).trans d2, (hb.cell (p := ⟨b1, i * 8 + 3, none⟩) (cell_lt d3)).trans d3, (hb.cell (p := ⟨b1, i * 8 + 4, none⟩) (cell_lt d4)).trans d4, (hb.cell (p := ⟨b1, i * 8 + 5, none⟩) (cell_lt d5)).trans d5, (hb.cell (p := ⟨b1, i * 8 + 6, none⟩) (cell_lt d6)).trans d6, (hb.cell (p := ⟨b1, i * 8 + 7, none⟩) (cell_lt d7)).trans d7, (hb.cell (p := ⟨b2, o2 + i * 8, none⟩) (cell_lt g0)).trans g0, (hb.cell (p := ⟨b2, o2 + i * 8 + 1, none⟩) (cell_lt g1)).trans g1, (hb.cell (p := ⟨b2, o2 + i * 8 + 2, none⟩) (cell_lt g2)).trans g2, (hb.cell (p := ⟨b2, o2 + i * 8 + 3, none⟩) (cell_lt g3)).trans g3, (hb.cell (p := ⟨b2, o2 + i * 8 + 4, none⟩) (cell_lt g4)).trans g4, (hb.cell (p := ⟨b2, o2 + i * 8 + 5, none⟩) (cell_lt g5)).trans g5, (hb.cell (p := ⟨b2, o2 + i * 8 + 6, none⟩) (cell_lt g6)).trans g6, (hb.cell (p := ⟨b2, o2 + i * 8 + 7, none⟩) (cell_lt g7)).trans g7, hb⟩)
          go_upto_region 12 with fail
          go_region_held3 (fun w' => w'.cell? ⟨b1, i * 8, none⟩ = some (.int .i64 tp) ∧ w'.cell? ⟨b1, i * 8 + 1, none⟩ = some (.slice qa tn ka) ∧ w'.cell? ⟨b1, i * 8 + 2, none⟩ = some (.int .i64 kg) ∧ w'.cell? ⟨b1, i * 8 + 3, none⟩ = some (.int .i64 ko) ∧ w'.cell? ⟨b1, i * 8 + 4, none⟩ = some (.int .i64 kn) ∧ w'.cell? ⟨b1, i * 8 + 5, none⟩ = some (.int .i64 kd) ∧ w'.cell? ⟨b1, i * 8 + 6, none⟩ = some (.int .i64 kc) ∧ w'.cell? ⟨b1, i * 8 + 7, none⟩ = some (.int .i64 kt) ∧ w'.cell? ⟨b2, o2 + i * 8, none⟩ = some (.int .i64 tp) ∧ w'.cell? ⟨b2, o2 + i * 8 + 1, none⟩ = some (.slice qb tn kb) ∧ w'.cell? ⟨b2, o2 + i * 8 + 2, none⟩ = some (.int .i64 kg) ∧ w'.cell? ⟨b2, o2 + i * 8 + 3, none⟩ = some (.int .i64 ko) ∧ w'.cell? ⟨b2, o2 + i * 8 + 4, none⟩ = some (.int .i64 kn) ∧ w'.cell? ⟨b2, o2 + i * 8 + 5, none⟩ = some (.int .i64 kd) ∧ w'.cell? ⟨b2, o2 + i * 8 + 6, none⟩ = some (.int .i64 kc) ∧ w'.cell? ⟨b2, o2 + i * 8 + 7, none⟩ = some (.int .i64 kt) ∧ Below wr.heap.size wr w')
            (first | exact HY.out _ (Below.refl _ _) | exact HY.out _ (below_drew (Below.refl _ _)) | (go_split_ands; exact HY.out _ (bnext (by assumption) hb)))
            ((go_at_call 32; refine (HSM.out _ ?_).mono ?_; (go_split_ands; assumption); rintro e wn ⟨rfl, hb⟩))
          have HB5 := Lib.hid (bnext HBZ.out (show Below wr.heap.size wr wn from by go_split_ands; assumption))
          clear hb d0 d1 d2 d3 d4 d5 d6 d7 g0 g1 g2 g3 g4 g5 g6 g7 HY HSM
          go_wp2_with fail
          go_roundw
          case rel => exact ⟨i + 1, by go_num, by omega, HB5⟩
          case measure => simp [intOf]; omega
        · have HBZW := Lib.hid (bnext HB.out (bnext HB3.out HBZ.out))
          have HPN1 := Lib.hid (HPN.out wr HBZW.out)
          obtain ⟨a0, a1, a2, a3, _, _⟩ := HX.out wr (bnext HB3.out HBZ.out)
          go_wp2_with fail
          refine HPN1.out.mono ?_
          rintro e w5 ⟨rfl, hb5⟩
          have HB5 := Lib.hid (bnext (bnext HB3.out HBZ.out) hb5)
          clear hb5 a0 a1 a2 a3
          obtain ⟨a0, a1, a2, a3, _, _⟩ := HX.out w5 HB5.out
          go_wp2_with fail
          refine (HRN.out w5 (bnext HB.out HB5.out)).mono ?_
          rintro e w6 ⟨rfl, hb6⟩
          have HB6 := Lib.hid (bnext HB5.out hb6)
          clear hb6 a0 a1 a2 a3
          obtain ⟨a0, a1, a2, a3, _, _⟩ := HX.out w6 HB6.out
          go_wp2_with fail
          have hq1 : ((nh : Int) == nh) = true := by simp
          have hq2 : (nb == nb) = true := by simp
          have hal16 : (ints A.all).length = A.idxs.length ∧ A.idxs.length ≤ 9223372036854775807 := ⟨by rw [ints_len, all_len], by rw [HNN.out]; omega⟩
          have HLL := Lib.hid hal16
          clear hal16
          go_region_held3 (fun w' => w'.cell? ⟨w.heap.size, 0, none⟩ = some (.slice p1 16 cp1) ∧ w'.cell? ⟨w.heap.size, 1, none⟩ = some (.slice p2 16 cp2) ∧ w'.cell? ⟨w.heap.size, 2, none⟩ = some (.slice p3 16 cp3) ∧ w'.cell? ⟨w.heap.size, 3, none⟩ = some (.int .i64 la) ∧ Below w.heap.size w w' ∧ Below WA.heap.size WA w')
            (first | exact HX.out _ HB6.out | exact HX.out _ HB6.out.drew | (go_split_ands; exact HX.out _ (bnext (by assumption) hb)) | (go_split_ands; exact ⟨by assumption, by assumption, by assumption, by assumption, by assumption, by assumption⟩))
            (first
              | (go_at_call 29; refine (HPR.out _ ?_).mono ?_; (go_split_ands; assumption); rintro e wc ⟨rfl, hb⟩)
              | (go_at_call 16; refine (HPL.out _ ?_).mono ?_; (go_split_ands; assumption); rintro e wa ⟨va, rfl, lsa, hb⟩; have LA := Lib.hid lsa; clear lsa)
              | (go_at_call 11; refine (HRL.out _ ?_).mono ?_; (go_split_ands; assumption); rintro e wb ⟨vb, rfl, lsb, hb⟩; have LB := Lib.hid (Lst.of_own (S := fun _ => False) lsb (HLL.out.1.trans HNN.out) (by omega) (fun _ _ _ k => k)); have LA2 := Lib.hid (LA.out.below hb); clear lsb)
              | (go_at_call 35; refine (HHS.out _ _ _ LA2.out LB.out).mono ?_; rintro e wh ⟨rfl, hb⟩))
          have HBH := Lib.hid (show Below w.heap.size w wh from by go_split_ands; assumption)
          clear hb a0 a1 a2 a3
          go_wp2_with fail
          go_ret
          exact ⟨rfl, HBH.out⟩
end Go.Proofs.YtedgchafligndaaGreat
