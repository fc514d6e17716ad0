/- Texts of stages 3, 4, 12, 13 and 14 that stand together: ZLeafS ZLeafD ZApp ZRefP ZRun JPool JPl JPlA; no condition but those that each row names. -/
import Derived.Test.YtedgchafligndaaGreatJB3
import Derived.Test.YtedgchafligndaaGreatJB4
import Derived.Test.YtedgchafligndaaGreatJB5
import Derived.Test.YtedgchafligndaaGreatJB7
import Derived.Deep.CutRange
import Derived.Deep.RegionLaw
import Derived.Deep.RegionHeld3
/- The program's leaf: Save; no condition but those that each row names. -/
namespace Go.Proofs.YtedgchafligndaaGreat
open Go.RowKit Tsk

/-- The tasks that are told. -/
def toldF (A : Tab) (T : Nat → Tk) : Nat → Tk := fun j => T (A.idxs.getD j 0)
/-- What Save answers. -/
def SavePost (w : World) (A : Tab) (T : Nat → Tk) (e : Ending) (w' : World) : Prop :=
  ∃ gs ts g c sl, e = .returned (.tuple #[gs, ts, .slice (some ⟨g, 0, none⟩) A.idxs.length c]) ∧ Lst (fun _ => False) w' gs (ints A.gens) ∧ Lst (fun _ => False) w' ts (bools A.taken) ∧ Tasks w' (.slice (some ⟨g, 0, none⟩) A.idxs.length c) A.idxs.length (tm (toldF A T) sl) ∧ Below w.heap.size w w'
/-- The row of tasks while each gets jobs of its own. -/
def SaveI (w : World) (F : Nat → Tk) (m g c : Nat) (wr : World) : Prop :=
  ∃ sl, wr.ownsRow w.heap.size KT 8 (.slice (some ⟨g, 0, none⟩) m c) m (tkL (tm F sl) m) ∧ (∀ j, j < m → JobsX (fun x => x = g) wr (sl j) (F j).n (F j).f) ∧ Below w.heap.size w wr
theorem SaveI.bel {w wr : World} {F : Nat → Tk} {m g c : Nat} (h : SaveI w F m g c wr) : Below w.heap.size w wr := by
  obtain ⟨sl, _, _, hb⟩ := h
  exact hb
theorem SaveI.fin {w wr : World} {F : Nat → Tk} {m g c : Nat} (h : SaveI w F m g c wr) (hm : m ≤ 4096) : ∃ sl, Tasks wr (.slice (some ⟨g, 0, none⟩) m c) m (tm F sl) := by
  obtain ⟨sl, ho, hj, _⟩ := h
  exact ⟨sl, own_tasks ho (by omega) fun j hlt => (hj j hlt).1⟩
theorem tm_upd2 (F : Nat → Tk) (sl : Nat → Value) (i : Nat) (s : Value) : tm F (upd sl i s) = upd (tm F sl) i ⟨(F i).p, s, (F i).n, (F i).f, (F i).k⟩ := by
  funext j
  unfold tm upd
  by_cases e : j = i
  · subst e; simp
  · simp [e]
theorem far8 {S : Nat → Prop} {w0 w : World} (h : Keeps S w0 w) (g i : Nat) (v0 v1 v2 v3 v4 v5 v6 v7 : Value) (hS : S g ∨ w0.heap.size ≤ g) : Keeps S w0 ((((((((w.setCell ⟨g, i * 8, none⟩ v0).setCell ⟨g, i * 8 + 1, none⟩ v1).setCell ⟨g, i * 8 + 2, none⟩ v2).setCell ⟨g, i * 8 + 3, none⟩ v3).setCell ⟨g, i * 8 + 4, none⟩ v4).setCell ⟨g, i * 8 + 5, none⟩ v5).setCell ⟨g, i * 8 + 6, none⟩ v6).setCell ⟨g, i * 8 + 7, none⟩ v7) :=
  (((((((h.setCell _ _ hS).setCell _ _ hS).setCell _ _ hS).setCell _ _ hS).setCell _ _ hS).setCell _ _ hS).setCell _ _ hS).setCell _ _ hS
end Go.Proofs.YtedgchafligndaaGreat
/- The program's leaf: Load, Clone; no condition but those that each row names. -/
namespace Go.Proofs.YtedgchafligndaaGreat
open Go.RowKit Tsk

/-- May slots and tasks be a leaf? -/
def okLoad (gens : List Int) (taken : List Bool) (m : Nat) (TT : Nat → Tk) : Prop := gens.length = 8 ∧ ((taken.length = gens.length ∧ standB gens taken gens.length) ∧ m = rank taken taken.length) ∧ ∀ j, j < m → okTk (TT j)
theorem ok8_load {gens : List Int} {taken : List Bool} {L : List Int} (h8 : gens.length = 8) (hl : taken.length = gens.length) (ho : standB gens taken gens.length) (hL : L.length = 8) : (loadTo 2 gens taken L).Good := by
  have h := load_good (kind := 2) (gens := gens) (taken := taken) (things := []) (by omega) (by omega) (by omega) (by omega) hl ho
  exact ⟨h.k1, h.k3, h.n1, h.n4, h.lt, by show L.length = gens.length; omega, h.g1, h.gt⟩
theorem rank_idxs {A : Tab} {j : Nat} (hj : j < A.idxs.length) : rank A.taken (A.idxs.getD j 0) = j := by
  obtain ⟨h1, h2⟩ := idxs_at hj
  have h3 := idxs_rank A h1 h2
  have hnd : A.idxs.Nodup := List.Pairwise.filter _ List.nodup_range
  have h4 : A.idxs[j]? = some (A.idxs.getD j 0) := by rw [List.getD_eq_getElem?_getD, List.getElem?_eq_getElem hj]; rfl
  have h5 : rank A.taken (A.idxs.getD j 0) < A.idxs.length := (List.getElem?_eq_some_iff.1 h3).1
  exact (List.getElem?_inj h5 hnd).1 (h3.trans h4.symm)
/-- While the tasks get jobs of their own: the table, the slots' jobs in none of its blocks, those of the slots that are done new. -/
def LoadI (w : World) (A : Tab) (T : Nat → Tk) (ST : Nat → Prop) (tv : Value) (k : Nat) (wr : World) : Prop :=
  ∃ sl, PKTab ST w.heap.size wr A (tm T sl) tv ∧ (∀ i, JobsX (fun x => ST x ∨ (x < w.heap.size ∧ (A.t i = false ∨ rank A.taken i < k))) wr (sl i) (T i).n (T i).f) ∧ Below w.heap.size w wr
theorem LoadI.bel {w wr : World} {A : Tab} {T : Nat → Tk} {ST : Nat → Prop} {tv : Value} {k : Nat} (h : LoadI w A T ST tv k wr) : Below w.heap.size w wr := by
  obtain ⟨_, _, _, hb⟩ := h
  exact hb
theorem LoadI.under {w wr w' : World} {A : Tab} {T : Nat → Tk} {ST : Nat → Prop} {tv : Value} {k : Nat} (h : LoadI w A T ST tv k wr) (hb : Below wr.heap.size wr w') : LoadI w A T ST tv k w' := by
  obtain ⟨sl, h1, h2, h3⟩ := h
  exact ⟨sl, h1.below hb, fun i => (h2 i).below hb, bnext h3 hb⟩
theorem t_len2 {A : Tab} (h : A.Good) {j : Nat} (hj : A.t j = true) : j < A.gens.length := by
  rw [← h.lt]
  unfold Tab.t at hj
  rcases Nat.lt_or_ge j A.taken.length with k | k
  · exact k
  · rw [List.getD_eq_getElem?_getD, List.getElem?_eq_none k] at hj; cases hj
theorem LoadI.start {w w1 : World} {A : Tab} {taken : List Bool} {TT : Nat → Tk} {m n8 : Nat} {ST : Nat → Prop} {tv y : Value} (hA : A.taken = taken) (h : PKTab ST w.heap.size w1 A (fillT taken TT n8) tv) (hb : Below w.heap.size w w1) (hy : Tasks w y m TT) (hr : ∀ i, A.t i = true → rank taken i < m) : LoadI w A (fillT taken TT n8) ST tv 0 w1 := by
  subst hA
  refine ⟨fun i => (fillT A.taken TT n8 i).s, h, fun i => ?_, hb⟩
  show JobsX _ w1 (fillT A.taken TT n8 i).s (fillT A.taken TT n8 i).n (fillT A.taken TT n8 i).f
  by_cases c : i < n8 ∧ A.taken.getD i false = true
  · have e1 : fillT A.taken TT n8 i = TT (rank A.taken i) := if_pos c
    rw [e1]
    obtain ⟨p, cap, rfl, _, hc⟩ := hy
    obtain ⟨b, off, _, _, _, _, _, _, _, _, _, hJ⟩ := hc (rank A.taken i) (hr i c.2)
    refine ⟨hJ.below hb, fun a n' c' e h0 k => ?_⟩
    have h1 := hJ.lt a n' c' e (by
      obtain ⟨p0, c0, e0, _⟩ := hJ
      rw [e] at e0
      cases e0
      exact h0)
    rcases k with k | ⟨_, k | k⟩
    · have := (h.lt _ k).1; omega
    · have : A.t i = true := c.2
      rw [this] at k; cases k
    · omega
  · have e1 : fillT A.taken TT n8 i = tk0 := if_neg c
    rw [e1]
    exact JobsX.nil _ _ _
theorem LoadI.step {w wr w5 w6 : World} {A : Tab} {T : Nat → Tk} {ST : Nat → Prop} {tv : Value} {k : Nat} (h : LoadI w A T ST tv k wr) (hg : A.Good) {sl : Nat → Value} (hj : ∀ i, JobsX (fun x => ST x ∨ (x < w.heap.size ∧ (A.t i = false ∨ rank A.taken i < k))) wr (sl i) (T i).n (T i).f) (h5 : Below wr.heap.size wr w5) (hST : ∀ x, ST x → x < wr.heap.size)
    {p : Int} {s : Value} {n : Nat} {f : Nat → Jb} {kk : Ac} (hT : T (A.idxs.getD k 0) = ⟨p, s, n, f, kk⟩) {s' : Value} (ho : JobsO wr.heap.size w5 s' n f) (hn : n ≤ 9223372036854775807) (ht : PKTab ST w.heap.size w6 A (upd (tm T sl) (A.idxs.getD k 0) ⟨p, s', n, f, kk⟩) tv) (hkp : Keeps ST w5 w6) : LoadI w A T ST tv (k + 1) w6 := by
  have hb := h.bel
  have hbel : Below w.heap.size w w6 := below_keeps (bnext hb h5) hkp (fun x hx => (ht.lt x hx).1)
  refine ⟨upd sl (A.idxs.getD k 0) s', by rw [tm_upd2, hT]; exact ht, fun i => ?_, hbel⟩
  by_cases e : i = A.idxs.getD k 0
  · rw [e, upd_same, hT]
    have h1 : JobsX (fun x => ST x ∨ x < w.heap.size) w5 s' n f := JobsX.own ho hn (fun x hx => by
      rcases hx with hx | hx
      · exact hST x hx
      · have := hb.size; omega)
    exact (h1.mono (fun x _ hx => by rcases hx with hx | hx; exact .inl hx; exact .inr hx.1)).keeps hkp (fun x hx => .inl hx)
  · rw [upd_ne _ e]
    refine (((hj i).below h5).mono (fun x _ hx => ?_)).keeps hkp (fun x hx => .inl hx)
    rcases hx with hx | ⟨hx, hq | hq⟩
    · exact .inl hx
    · exact .inr ⟨hx, .inl hq⟩
    · refine .inr ⟨hx, ?_⟩
      cases hti : A.t i with
      | false => exact .inl rfl
      | true =>
        right
        rcases Nat.lt_or_ge (rank A.taken i) k with q | q
        · exact q
        · exfalso
          have e2 : rank A.taken i = k := by omega
          have h3 := idxs_rank A (t_len2 hg hti) hti
          rw [e2] at h3
          refine e ?_
          rw [List.getD_eq_getElem?_getD, h3]
          rfl
/-- What Load answers of what may be. -/
def LoadPost (w : World) (A : Tab) (T : Nat → Tk) (e : Ending) (w' : World) : Prop :=
  ∃ S v, e = .returned (.tuple #[v, .nilIface]) ∧ (∀ X : Nat → Prop, (∀ x, X x → x < w.heap.size) → Lf S (fun x => X x ∨ S x) w.heap.size w' A T v) ∧ Below w.heap.size w w'
def LoadAny (w : World) (ok : Prop) (A : Tab) (T : Nat → Tk) (e : Ending) (w' : World) : Prop := (ok ∧ LoadPost w A T e w') ∨ (¬ ok ∧ e = .returned (.tuple #[.pointer none, errV 270]) ∧ Below w.heap.size w w')
theorem Lf_tm {S X : Nat → Prop} {B : Nat} {w : World} {A : Tab} {T : Nat → Tk} {v : Value} {s : Nat → Value} (h : Lf S X B w A (tm T s) v) : Lf S X B w A T v := h
theorem stand_good {A : Tab} (h : A.Good) : standB A.gens A.taken A.gens.length := fun i hi => by
  have h1 := h.g1 i hi
  refine ⟨h1.1, ?_⟩
  show A.g i ≤ _
  by_cases ht : A.taken.getD i false = true
  · rw [if_pos ht]; exact h.gt i hi ht
  · rw [if_neg ht]; exact h1.2
end Go.Proofs.YtedgchafligndaaGreat
/- What an append of tasks makes; no condition but those that each row names. -/
namespace Go.Proofs.YtedgchafligndaaGreat
open Go.RowKit Tsk

/-- What is appended: m tasks, their cells. -/
def SrcK (w : World) (u : Value) (m : Nat) (ys : List Value) : Prop := ∃ p cap, u = .slice p m cap ∧ ys.length = m * 8 ∧ ∀ j y, ys[j]? = some y → ∃ b off, p = some ⟨b, off, none⟩ ∧ w.cell? ⟨b, off + j, none⟩ = some y
theorem run_append_tasks (w : World) (ty : TypeId) (base : Nat) (v : Value) (n : Nat) (xs : List Value) (hown : w.ownsRow base KT 8 v n xs) (u : Value) (m : Nat) (ys : List Value) (hu : SrcK w u m ys) (h1 : ∀ u ∈ ys, u.oneCell' = true) (hm : (n + m) * 80 ≤ 140737488355328) (hbase : base ≤ w.heap.size) :
    ∃ p cap w', (Builtin.append_ #[24, 24] ty #[v, u]).run Tryz.prog w = .ok (.slice p (n + m) cap) w' ∧ w'.ownsRow base KT 8 (.slice p (n + m) cap) (n + m) (xs ++ ys) ∧ w.grownBy w' v.ownBlock ∧
      (∀ g, (Value.slice p (n + m) cap).ownBlock = some g → v.ownBlock = some g ∨ w.heap.size ≤ g) := by
  obtain ⟨i0, hi, hz0, hz1, hz2⟩ := info_parts Tryz.infTk
  obtain ⟨p, cap, rfl, hl, hc⟩ := hu
  cases m with
  | zero =>
    obtain rfl : ys = [] := List.eq_nil_of_length_eq_zero (by omega)
    obtain ⟨p', cap', rfl, hle⟩ := own_small hown
    refine ⟨p', cap', w, ?_, by simpa using hown, ⟨rfl, rfl, rfl, Nat.le_refl _, fun _ _ _ => rfl⟩, fun g e => .inl e⟩
    refine run_append_nothing w 24 24 ty KT i0 Tryz.underlying24 hi p' n cap' hle _ ?_
    cases p with
    | none => exact Src.ofNil w Tryz.underlying24 cap
    | some a => exact Src.ofSlice w Tryz.underlying24 a 0 cap [] (by simp) (fun j u hj => by simp at hj) (fun u hu => by simp at hu)
  | succ m =>
    obtain ⟨y, hy⟩ : ∃ y, ys[0]? = some y := ⟨_, List.getElem?_eq_getElem (by omega)⟩
    obtain ⟨b, off, rfl, _⟩ := hc 0 y hy
    obtain ⟨g, cap', w', hr, ho, hg, hat, hlt⟩ := run_append_lies (P := Tryz.prog) (w := w) 24 ty base KT i0 (.agg #[.int .i64 0, .slice none 0 0, .int .i64 0, .int .i64 0, .int .i64 0, .int .i64 0, .int .i64 0, .int .i64 0]) 8 80 Tryz.underlying24 hi hz0 hz1 hz2 rfl (by decide) v n xs hown ⟨b, off, none⟩ (m + 1) cap ys hl
      (fun j u hj => by
        obtain ⟨b', off', e, hcell⟩ := hc j u hj
        cases e
        have hadd : (⟨b, off, none⟩ : Addr).add j = ⟨b, off + j, none⟩ := by unfold Addr.add; split <;> simp_all
        rw [hadd]; exact hcell) h1 (by omega) (by unfold maxLen; omega) (by omega) hbase _ rfl
    refine ⟨_, _, w', hr, ho, hg, fun g' e => ?_⟩
    simp [Value.ownBlock] at e
    subst e
    rcases hat with e | e
    · exact .inl e
    · exact .inr (by omega)
theorem wpList_append_tasks {w : World} {ops : Array Oper} {rest : List Oper} {o : Oper} {a : Act} {Q : Exit → Act → World → Prop} (hgd : o.guard = none) (s x : Operand)
    (ho : o.op = .call { callee := .builtin .append, args := #[s, x], argTypes := #[24, 24] })
    (base : Nat) (v : Value) (n : Nat) (xs : List Value) (hs : a.eval s = v) (hown : w.ownsRow base KT 8 v n xs) (u : Value) (m : Nat) (ys : List Value) (hx : a.eval x = u) (hu : SrcK w u m ys) (h1 : ∀ u ∈ ys, u.oneCell' = true) (hm : (n + m) * 80 ≤ 140737488355328) (hbase : base ≤ w.heap.size)
    (h : ∀ p cap w', w'.ownsRow base KT 8 (.slice p (n + m) cap) (n + m) (xs ++ ys) → w.grownBy w' v.ownBlock → (∀ g, (Value.slice p (n + m) cap).ownBlock = some g → v.ownBlock = some g ∨ w.heap.size ≤ g) → wpList Tryz.prog ops Q rest (a.put o.dst (.slice p (n + m) cap)) w') : wpList Tryz.prog ops Q (o :: rest) a w := by
  refine wpList_plain hgd fun K hK => ?_
  obtain ⟨p, cap, w', hr, h2, h3, h4⟩ := run_append_tasks w o.type base v n xs hown u m ys hu h1 hm hbase
  unfold Oper.wp execOp
  simp only [ho, resolve, invoke, builtin, Sem.run_bind, Sem.run_pure, Result.andThen_ok, List.map_toArray, List.map_cons, List.map_nil, hs, hx, hr]
  exact hK _ _ (h p cap w' h2 h3 h4)
/-- A slice that reads as tasks is such a source. -/
theorem src_tasks {w : World} {v : Value} {n : Nat} {T : Nat → Tk} (h : Tasks w v n T) : SrcK w v n (tkL T n) := by
  obtain ⟨p, cap, rfl, _, hc⟩ := h
  refine ⟨p, cap, rfl, tkL_len T n, fun j y hy => ?_⟩
  have hj : j < n * 8 := by have := (List.getElem?_eq_some_iff.1 hy).1; rwa [tkL_len] at this
  obtain ⟨b, off, e, c0, c1, c2, c3, c4, c5, c6, c7, _⟩ := hc (j / 8) (by omega)
  refine ⟨b, off, e, ?_⟩
  have hd : j = j / 8 * 8 + j % 8 := by omega
  rw [hd, tkL_at T (by omega) _ (by omega)] at hy
  cases hy
  have hr : j % 8 = 0 ∨ j % 8 = 1 ∨ j % 8 = 2 ∨ j % 8 = 3 ∨ j % 8 = 4 ∨ j % 8 = 5 ∨ j % 8 = 6 ∨ j % 8 = 7 := by omega
  generalize j / 8 = i at *
  rcases hr with r | r | r | r | r | r | r | r
  · rw [r] at hd ⊢; rw [hd]; exact c0
  · rw [r] at hd ⊢; rw [hd, ← Nat.add_assoc]; exact c1
  · rw [r] at hd ⊢; rw [hd, ← Nat.add_assoc]; exact c2
  · rw [r] at hd ⊢; rw [hd, ← Nat.add_assoc]; exact c3
  · rw [r] at hd ⊢; rw [hd, ← Nat.add_assoc]; exact c4
  · rw [r] at hd ⊢; rw [hd, ← Nat.add_assoc]; exact c5
  · rw [r] at hd ⊢; rw [hd, ← Nat.add_assoc]; exact c6
  · rw [r] at hd ⊢; rw [hd, ← Nat.add_assoc]; exact c7
/-- One task that lies in a block of its own. -/
theorem src_onet (w : World) (p : Int) (s : Value) (k : Ac) (t : TypeId) : SrcK (w.alloc (.cells #[.int .i64 p, s, .int .i64 k.g, .int .i64 k.o, .int .i64 k.n, .int .i64 k.d, .int .i64 k.c, .int .i64 k.t] t)) (.slice (some ⟨w.heap.size, 0, none⟩) 1 1) 1 [.int .i64 p, s, .int .i64 k.g, .int .i64 k.o, .int .i64 k.n, .int .i64 k.d, .int .i64 k.c, .int .i64 k.t] := by
  refine ⟨_, _, rfl, rfl, fun i y hy => ⟨w.heap.size, 0, rfl, ?_⟩⟩
  rw [Nat.zero_add, has_cell (has_new w (.cells #[.int .i64 p, s, .int .i64 k.g, .int .i64 k.o, .int .i64 k.n, .int .i64 k.d, .int .i64 k.c, .int .i64 k.t] t) _ rfl)]
  simpa using hy
theorem tkL_one {w : World} {v : Value} {n : Nat} {T : Nat → Tk} (h : Tasks w v n T) : ∀ u ∈ tkL T n, u.oneCell' = true := by
  intro u hu
  unfold tkL lst at hu
  obtain ⟨x, hx, rfl⟩ := List.mem_map.1 hu
  have hx' : x < n * 8 := List.mem_range.1 hx
  obtain ⟨_, _, _, _, hc⟩ := h
  obtain ⟨_, _, _, _, _, _, _, _, _, _, _, hJ⟩ := hc (x / 8) (by omega)
  obtain ⟨p, cap, e, _⟩ := hJ
  unfold prtT
  have hr : x % 8 = 0 ∨ x % 8 = 1 ∨ x % 8 = 2 ∨ x % 8 = 3 ∨ x % 8 = 4 ∨ x % 8 = 5 ∨ x % 8 = 6 ∨ x % 8 = 7 := by omega
  rcases hr with r | r | r | r | r | r | r | r <;> rw [r] <;> first | rfl | (simp only [Nat.one_ne_zero, if_false, if_true, e]; rfl)
end Go.Proofs.YtedgchafligndaaGreat
/- The document's own leaf as it lies in memory; put, handle, Task, All; no condition but those that each row names. -/
namespace Go.Proofs.YtedgchafligndaaGreat
open Go.RowKit Tsk

/-- A slice of tasks that lies, with their jobs, in none of the blocks X. -/
structure TasksX (X : Nat → Prop) (w : World) (v : Value) (m : Nat) (F : Nat → Tk) : Prop where
  tk : Tasks w v m F
  far : ∀ a n c, v = .slice (some a) n c → 0 < n → ¬ X a.block
  jx : ∀ j, j < m → JobsX X w (F j).s (F j).n (F j).f
theorem TasksX.keeps {X R : Nat → Prop} {w w' : World} {v : Value} {m : Nat} {F : Nat → Tk} (h : TasksX X w v m F) (hk : Keeps R w w') (hR : ∀ x, R x → X x) : TasksX X w' v m F := by
  refine ⟨?_, h.far, fun j hj => (h.jx j hj).keeps hk hR⟩
  obtain ⟨⟨p, cap, e, hm, hc⟩, hf, hj⟩ := h
  refine ⟨p, cap, e, hm, fun j hlt => ?_⟩
  obtain ⟨b, off, e2, c0, c1, c2, c3, c4, c5, c6, c7, hJ⟩ := hc j hlt
  have hl := cell_lt c0
  have hn : ¬ R b := fun r => hf ⟨b, off, none⟩ m cap (by rw [e, e2]) (by omega) (hR b r)
  have k := fun (o : Nat) => hk.cell (p := ⟨b, o, none⟩) hl hn
  exact ⟨b, off, e2, (k _).trans c0, (k _).trans c1, (k _).trans c2, (k _).trans c3, (k _).trans c4, (k _).trans c5, (k _).trans c6, (k _).trans c7, ((hj j hlt).keeps hk hR).1⟩
theorem TasksX.below {X : Nat → Prop} {w w' : World} {v : Value} {m : Nat} {F : Nat → Tk} (h : TasksX X w v m F) (hb : Below w.heap.size w w') : TasksX X w' v m F := ⟨h.tk.below hb, h.far, fun j hj => (h.jx j hj).below hb⟩
theorem TasksX.mono {X Y : Nat → Prop} {w : World} {v : Value} {m : Nat} {F : Nat → Tk} (h : TasksX X w v m F) (hy : ∀ x, x < w.heap.size → Y x → X x) : TasksX Y w v m F := by
  refine ⟨h.tk, fun a n c e h0 k => ?_, fun j hj => (h.jx j hj).mono hy⟩
  have ht := h.tk
  obtain ⟨p, cap, e1, _, hc⟩ := ht
  rw [e] at e1
  cases e1
  obtain ⟨b, off, e2, c0, _⟩ := hc 0 h0
  cases e2
  exact h.far _ _ _ e h0 (hy _ (cell_lt c0) k)
/-- The document's leaf in a world. -/
structure DL (X : Nat → Prop) (w : World) (A : Tab) (T : Nat → Tk) (gs ts ls ks : Value) : Prop where
  rt : RT X w A gs ts ls
  tk : ∃ sl, TasksX X w ks 8 (tm T sl)
theorem DL.keeps {X : Nat → Prop} {w w' : World} {A : Tab} {T : Nat → Tk} {gs ts ls ks : Value} (h : DL X w A T gs ts ls ks) (hk : Keeps X w w') : DL X w' A T gs ts ls ks := by
  obtain ⟨sl, hs⟩ := h.tk
  exact ⟨h.rt.keeps hk, sl, hs.keeps hk (fun _ k => k)⟩
theorem DL.below {X : Nat → Prop} {w w' : World} {A : Tab} {T : Nat → Tk} {gs ts ls ks : Value} (h : DL X w A T gs ts ls ks) (hb : Below w.heap.size w w') : DL X w' A T gs ts ls ks := h.keeps (Keeps.of_below hb)
abbrev lv (k : Int) (gs ts ls ks : Value) : Value := .agg #[.int .i64 k, gs, ts, ls, ks]
theorem below5 {B g : Nat} {w W : World} (h : Below B w W) (hg : B ≤ g) (v0 v1 v2 v3 v4 : Value) : Below B w (((((W.setCell ⟨g, 0, none⟩ v0).setCell ⟨g, 1, none⟩ v1).setCell ⟨g, 2, none⟩ v2).setCell ⟨g, 3, none⟩ v3).setCell ⟨g, 4, none⟩ v4) :=
  below_low (below_low (below_low (below_low (below_low h _ _ hg) _ _ hg) _ _ hg) _ _ hg) _ _ hg
theorem own_low5 {B e z n g : Nat} {w : World} {v : Value} {xs : List Value} (h : w.ownsRow B e z v n xs) (hg : g < B) (v0 v1 v2 v3 v4 : Value) : (((((w.setCell ⟨g, 0, none⟩ v0).setCell ⟨g, 1, none⟩ v1).setCell ⟨g, 2, none⟩ v2).setCell ⟨g, 3, none⟩ v3).setCell ⟨g, 4, none⟩ v4).ownsRow B e z v n xs :=
  own_low (own_low (own_low (own_low (own_low h _ _ hg) _ _ hg) _ _ hg) _ _ hg) _ _ hg
/-- The three slices of a table. -/
def IsSl3 (gs ts ls : Value) : Prop := ∃ p n c q n2 c2 r n3 c3, gs = .slice p n c ∧ ts = .slice q n2 c2 ∧ ls = .slice r n3 c3
theorem RT.sl3 {X : Nat → Prop} {w : World} {A : Tab} {gs ts ls : Value} (h : RT X w A gs ts ls) : IsSl3 gs ts ls := by
  obtain ⟨p, cp, q, cq, r, cr, e1, e2, e3⟩ := h.shapes
  exact ⟨p, _, cp, q, _, cq, r, _, cr, e1, e2, e3⟩
/-- What put answers: another task at a slot, in a row of its own. -/
def PutP (X : Nat → Prop) (w : World) (k : Int) (gs ts ls : Value) (F : Nat → Tk) (e : Ending) (w' : World) : Prop := ∃ ks, e = .returned (lv k gs ts ls ks) ∧ TasksX X w' ks 8 F ∧ Below w.heap.size w w'
end Go.Proofs.YtedgchafligndaaGreat
/- The document's own task: Run, the jobs that it answers in memory of their own; no condition but those that each row names. -/
namespace Go.Proofs.YtedgchafligndaaGreat
open Go.RowKit Tsk

/-- A slice of jobs that lies in new blocks. -/
def JobsF (B : Nat) (w : World) (v : Value) (n : Nat) (f : Nat → Jb) : Prop := Jobs w v n f ∧ ∀ a m c, v = .slice (some a) m c → 0 < m → B ≤ a.block
def TaskR2 (w : World) (p : Int) (n : Nat) (f : Nat → Jb) (k : Ac) (x : Value) (w' : World) : Prop := ∃ s, x = tV p s k ∧ JobsF w.heap.size w' s n f ∧ Below w.heap.size w w'
theorem task_run2 {w w' : World} {p : Int} {s : Value} {g o m d c t : Int} {n n' : Nat} {f f' : Nat → Jb} {k : Ac} (hk : k = ⟨g, o, m, d, c, t⟩) (hn : n' = n) (hf : ∀ i, i < n → f i = f' i) (hj : JobsF w.heap.size w' s n f) (hb : Below w.heap.size w w') : TaskR2 w p n' f' k (tV p s ⟨g, o, m, d, c, t⟩) w' := by
  subst hk hn
  exact ⟨s, rfl, ⟨hj.1.congr hf, hj.2⟩, hb⟩
theorem jobs_none2 {B : Nat} (W : World) (g : Option Addr) (m c : Nat) (F : Nat → Jb) (h : m = 0) : JobsF B W (.slice g m c) m F := by
  refine ⟨jobs_none W g m c F h, fun a m' c' e h0 => ?_⟩
  cases e
  omega
theorem jobs_tail2 {B B' n c4 : Nat} {W : World} {g : Nat} {F : Nat → Jb} (h : JobsO (B' + 2) W (.slice (some ⟨g, 0, none⟩) n c4) n F) (hn : n ≤ 9223372036854775807) (_hB : B = B' + 2 := by rfl) : JobsF B' W (.slice (some ⟨g, 4, none⟩) (n - 1) (c4 - 1)) (n - 1) (fun i => F (i + 1)) := by
  refine ⟨jobs_tail h hn, fun a m' c' e h0 => ?_⟩
  cases e
  obtain ⟨g', cap, e2, _, hg, _⟩ := own_block2 h (by omega)
  cases e2
  show B' ≤ g
  omega
theorem own_jobs2 {B B' n : Nat} {W : World} {v : Value} {f : Nat → Jb} (h : JobsO (B' + 2) W v n f) (hn : n ≤ 9223372036854775807) (_hB : B = B' + 2 := by rfl) : JobsF B' W v n f := by
  refine ⟨own_jobs h hn, fun a m' c' e h0 => ?_⟩
  obtain ⟨p, cap, e3, _⟩ := own_small h
  rw [e] at e3
  cases e3
  obtain ⟨g', cap', e2, _, hg, _⟩ := own_block2 h h0
  rw [e] at e2
  cases e2
  show B' ≤ g'
  omega
theorem zero_taskR2 {w w' : World} (f : Nat → Jb) (hb : Below w.heap.size w w') : TaskR2 w 0 0 f kZ zT w' := ⟨_, rfl, jobs_none2 _ _ _ _ _ rfl, hb⟩
set_option maxHeartbeats 4000000 in
set_option maxRecDepth 100000 in
theorem rrun_ok2 (p : Int) (s : Value) (n : Nat) (f : Nat → Jb) (k : Ac) (now : Int) (w : World) (h : Jobs w s n f) (hv : okT p n f k) (hn : 0 ≤ now ∧ now < 1073741824) (h0 : 0 < n) (hg : k.g < 1073741824) :
    Calls Tryz.prog 72 #[tV p s k, .int .i64 now] w fun e w' => ∃ x, e = .returned (.tuple #[x, .int .i64 (runW (f 0)), .int .i64 (runL (f 0) now), .int .i64 0]) ∧ TaskR2 w p (runN n (f 0)) (runF f) (runK k (f 0) now) x w' := by
  have HV := Lib.hid (fun w (h : Jobs w s n f) => rvalid p s n f k w h)
  rw [ok_yes hv] at HV
  have HOK := Lib.hid hv
  clear hv
  have hnb : decide (now < 0) = false := decide_eq_false (by omega)
  have hnc : decide (1073741824 ≤ now) = false := decide_eq_false (by omega)
  have hz : decide (0 < n) = true := decide_eq_true h0
  have HJ := Lib.hid h
  obtain ⟨q, cap, rfl, _, _⟩ := h
  obtain ⟨kg, ko, kn, kd, kc, kt⟩ := k
  have hg2 : kg < 1073741824 := hg
  have hg3 : (kg == 1073741824) = false := by simp; omega
  clear hg
  obtain ⟨WA, hWA⟩ : ∃ WA, WA = (w.alloc (.cells #[.int .i64 p, .slice q n cap, .int .i64 kg, .int .i64 ko, .int .i64 kn, .int .i64 kd, .int .i64 kc, .int .i64 kt] KT)).alloc (.cells #[.int .i64 0, .slice none 0 0, .int .i64 0, .int .i64 0, .int .i64 0, .int .i64 0, .int .i64 0, .int .i64 0] KT) := ⟨_, rfl⟩
  have HB := Lib.hid (show Below w.heap.size w WA from by rw [hWA]; exact ((Below.refl _ _).alloc (Nat.le_refl _) _).alloc (by simp) _)
  have HA := Lib.hid (show HasT WA w.heap.size p (.slice q n cap) ⟨kg, ko, kn, kd, kc, kt⟩ ∧ HasT WA (w.heap.size + 1) 0 (.slice none 0 0) kZ ∧ WA.heap.size = w.heap.size + 2 from by
    rw [hWA]
    exact ⟨has_old (has_new w _ _ rfl) _, has_new _ _ _ (by simp), by simp⟩)
  have HW := Lib.hid hWA
  clear hWA
  go_enter Tryz.func72, Tryz.ntmps72
  go_wp2_with fail
  rw [← HW.out]
  refine (HV.out _ (HJ.out.below HB.out)).mono ?_
  rintro e w1 ⟨rfl, hb1⟩
  have HB1 := Lib.hid (bnext HB.out hb1)
  have HC1 := Lib.hid hb1
  obtain ⟨x0, x1, x2, x3, x4, x5, x6, x7⟩ := (HA.out.1.below hb1).cells
  obtain ⟨y0, y1, y2, y3, y4, y5, y6, y7⟩ := (HA.out.2.1.below hb1).cells
  have f1 : ∀ j, w1.frozen? ⟨w.heap.size + 1, j, none⟩ = false := fun j => has_free (HA.out.2.1.below hb1) j
  clear hb1
  go_wp2_with fail
  refine (rready p q n cap ⟨kg, ko, kn, kd, kc, kt⟩ _).mono ?_
  rintro e w3 ⟨rfl, hb3⟩
  rw [hz]
  have HB3 := Lib.hid (bnext HB1.out hb3)
  have hc3 := bnext HC1.out hb3
  clear x0 x1 x2 x3 x4 x5 x6 x7 y0 y1 y2 y3 y4 y5 y6 y7 f1
  obtain ⟨x0, x1, x2, x3, x4, x5, x6, x7⟩ := (HA.out.1.below hc3).cells
  obtain ⟨y0, y1, y2, y3, y4, y5, y6, y7⟩ := (HA.out.2.1.below hc3).cells
  have f1 : ∀ j, w3.frozen? ⟨w.heap.size + 1, j, none⟩ = false := fun j => has_free (HA.out.2.1.below hc3) j
  have HC3 := Lib.hid hc3
  clear hb3 hc3
  go_upto_region 9 with fail
  go_cut [] (fun wx => Ran0 w p n f ⟨kg, ko, kn, kd, kc, kt⟩ wx)
  case first =>
    go_wp2_with fail
    refine (rtwin p (.slice q n cap) n f ⟨kg, ko, kn, kd, kc, kt⟩ _ (HJ.out.below HB3.out) (by have := HOK.out.2.1; omega)).mono ?_
    rintro e w4 ⟨x, rfl, s4, c4, rfl, ho4, hb4⟩
    have hc4 := bnext HC3.out hb4
    have HP := Lib.hid (Ran0.made (HA.out.1.below hc4) (HA.out.2.1.below hc4) (own_base2 ho4 (show w.heap.size + 2 ≤ w3.heap.size from by have := HC3.out.size; have := HA.out.2.2; omega)) (bnext HB3.out hb4) h0)
    clear x0 x1 x2 x3 x4 x5 x6 x7 y0 y1 y2 y3 y4 y5 y6 y7 f1
    obtain ⟨x0, x1, x2, x3, x4, x5, x6, x7⟩ := (HA.out.1.below hc4).cells
    obtain ⟨y0, y1, y2, y3, y4, y5, y6, y7⟩ := (HA.out.2.1.below hc4).cells
    have f1 : ∀ j, w4.frozen? ⟨w.heap.size + 1, j, none⟩ = false := fun j => has_free (HA.out.2.1.below hc4) j
    have f0 : ∀ j, w4.frozen? ⟨w.heap.size, j, none⟩ = false := fun j => has_free (HA.out.1.below hc4) j
    clear hb4 hc4 ho4
    go_wp2_with fail
    go_meet
    exact HP.out
  case rest =>
    obtain ⟨g, c4, h1, h2, h3, h4⟩ := hcut
    have hkj := HOK.out.2.2.1 0 h0
    have hkn := HOK.out.2.1
    obtain ⟨⟨_, ho1, hz3⟩, hd1, hd2, hd3⟩ := (okA_mk _ _ _ _ _ _).1 HOK.out.2.2.2
    have ho2 : 0 ≤ ko := by omega
    have ho3 : ko < 1073741824 := by omega
    obtain ⟨b0, b1, b2, b3⟩ := jbL_at f h0
    have e0 : wc.cell? ⟨g, 0, none⟩ = some (.int .i64 (f 0).l) := (World.ownsRow.cellAt h3 0 (by omega)).trans b0
    have e1 : wc.cell? ⟨g, 1, none⟩ = some (.int .i64 (f 0).c) := (World.ownsRow.cellAt h3 1 (by omega)).trans b1
    have e2 : wc.cell? ⟨g, 2, none⟩ = some (.int .i64 (f 0).a) := (World.ownsRow.cellAt h3 2 (by omega)).trans b2
    have e3 : wc.cell? ⟨g, 3, none⟩ = some (.int .i64 (f 0).d) := (World.ownsRow.cellAt h3 3 (by omega)).trans b3
    have S1 := Lib.hid (fun jb x y => St.ran h1 h2 h3 h4 jb x y)
    obtain ⟨x0, x1, x2, x3, x4, x5, x6, x7⟩ := h1.cells
    have f0 : ∀ j, wc.frozen? ⟨w.heap.size, j, none⟩ = false := fun j => has_free h1 j
    have f2 : ∀ j, wc.frozen? ⟨g, j, none⟩ = false := fun j => World.ownsRow.frozenAt h3 j
    have hgs : w.heap.size + 2 ≤ g ∧ g < wc.heap.size := World.ownsRow.lt h3 g rfl
    obtain ⟨hg1, hg4⟩ := hgs
    have hn0 : (0 : Int) < (n : Int) := by omega
    obtain ⟨jb, hjb⟩ : ∃ jb, jb = f 0 := ⟨_, rfl⟩
    rw [← hjb] at e0 e1 e2 e3 hkj
    obtain ⟨l, c, a, d⟩ := jb
    have HF0 := Lib.hid (show f 0 = ⟨l, c, a, d⟩ from hjb.symm)
    have HNC := Lib.hid (show n ≤ c4 from by obtain ⟨_, _, e, h, _⟩ := own_block2 h3 h0; cases e; exact h)
    dsimp only at e0 e1 e2 e3
    clear hjb
    obtain ⟨⟨l1, l2⟩, ⟨c1', c2'⟩, ⟨a1', a2'⟩, d1', d2'⟩ := (okJ_mk _ _ _ _).1 hkj
    have hsl : w.heap.size < wc.heap.size := by omega
    have hsl1 : w.heap.size + 1 < wc.heap.size := by omega
    clear h1 h2 h3 h4 b0 b1 b2 b3 hkj ho1 hz3
    by_cases hc0 : 0 < c
    · skip
      have S7 := Lib.hid (S1.out ⟨l - 1, c - 1, a, d⟩ (kg + 1) (ko + 1))
      go_upto_region 17 with fail
      go_cut [8] (fun jv wx => ∃ J, jv = .pointer (some ⟨J, 0, none⟩) ∧ St w p (.slice (some ⟨g, 0, none⟩) n c4) ⟨kg + 1, ko + 1, kn, kd, kc, kt⟩ J ⟨l - 1, c - 1, a, d⟩ g n c4 (upd f 0 ⟨l - 1, c - 1, a, d⟩) wx)
      case first =>
        go_wp2_with fail
        go_meet
        exact ⟨_, rfl, S7.out⟩
      case rest =>
        obtain ⟨wc0, rfl, hcut⟩ := hcut
        have S8 := Lib.hid hcut
        obtain ⟨x0, x1, x2, x3, x4, x5, x6, x7⟩ := hcut.t.cells
        obtain ⟨y0, y1, y2, y3, y4, y5, y6, y7⟩ := hcut.r.cells
        obtain ⟨j0, j1, j2, j3⟩ := hcut.j.cells
        have f3 : ∀ j, wc.frozen? ⟨w.heap.size, j, none⟩ = false := fun j => has_free hcut.t j
        have f4 : ∀ j, wc.frozen? ⟨w.heap.size + 1, j, none⟩ = false := fun j => has_free hcut.r j
        have hJl : w.heap.size + 2 ≤ wc0 := hcut.Jl
        have hsw : w.heap.size + 1 < wc.heap.size := has_lt hcut.r
        clear hcut S7 S1 f0 f2 e0 e1 e2 e3
        by_cases q1 : l = 1
        · have q2 : (l - 1 == 0) = true := by simp; omega
          have HRF := Lib.hid (show runF f = fun i => f (i + 1) from if_pos (.inl (by rw [HF0.out]; exact q1)))
          go_wp2_with fail
          all_goals
            apply bodyPost_ret
            · simp [results, Tryz.results72, go_sem, y0, y1, y2, y3, y4, y5, y6, y7]
              exact rfl
            · rfl
            · rw [HF0.out]
              refine ⟨_, ret_run (by unfold runW; dsimp only; (repeat' split) <;> omega) (by unfold runL; dsimp only; (repeat' split) <;> omega), ?_⟩
              have hK0 := HNC.out
              first
                | (refine task_run2 (ac_eq rfl rfl rfl ?_ ?_ ?_) ?_ (fun i hi => rfl) (jobs_none2 _ _ _ _ (runF f) (by omega)) ?_)
                | (refine task_run2 (ac_eq rfl rfl rfl ?_ ?_ ?_) ?_ (fun i hi => ?_) (jobs_tail2 (B := w.heap.size + 2) (F := upd f 0 ⟨l - 1, c - 1, a, d⟩) ?_ (by omega)) ?_)
                | (refine task_run2 (ac_eq rfl rfl rfl ?_ ?_ ?_) ?_ (fun i hi => ?_) (own_jobs2 (B := w.heap.size + 2) (f := upd f 0 ⟨l - 1, c - 1, a, d⟩) ?_ (by omega)) ?_)
              all_goals first
                | (dsimp only; (repeat' split) <;> omega)
                | (unfold runN; dsimp only; (repeat' split) <;> omega)
                | (rw [HRF.out]; done)
                | (rw [HRF.out]; exact upd_ne _ (by omega))
                | (refine own_low ?_ _ _ (by first | (simp; done) | (simp; omega)); repeat (first | (with_reducible exact S8.out.row) | refine own_low ?_ _ _ (by first | (simp; done) | (simp; omega))))
                | (repeat (first | (with_reducible exact S8.out.below) | refine below_low ?_ _ _ (by first | (simp; done) | (simp; omega))))
        · have q2 : (l - 1 == 0) = false := by simp; omega
          by_cases q3 : c = 1
          · have q4 : (c - 1 == 0) = true := by simp; omega
            have HRF := Lib.hid (show runF f = fun i => f (i + 1) from if_pos (.inr (by rw [HF0.out]; exact q3)))
            go_wp2_with fail
            all_goals
              apply bodyPost_ret
              · simp [results, Tryz.results72, go_sem, y0, y1, y2, y3, y4, y5, y6, y7]
                exact rfl
              · rfl
              · rw [HF0.out]
                refine ⟨_, ret_run (by unfold runW; dsimp only; (repeat' split) <;> omega) (by unfold runL; dsimp only; (repeat' split) <;> omega), ?_⟩
                have hK0 := HNC.out
                first
                  | (refine task_run2 (ac_eq rfl rfl rfl ?_ ?_ ?_) ?_ (fun i hi => rfl) (jobs_none2 _ _ _ _ (runF f) (by omega)) ?_)
                  | (refine task_run2 (ac_eq rfl rfl rfl ?_ ?_ ?_) ?_ (fun i hi => ?_) (jobs_tail2 (B := w.heap.size + 2) (F := upd f 0 ⟨l - 1, c - 1, a, d⟩) ?_ (by omega)) ?_)
                  | (refine task_run2 (ac_eq rfl rfl rfl ?_ ?_ ?_) ?_ (fun i hi => ?_) (own_jobs2 (B := w.heap.size + 2) (f := upd f 0 ⟨l - 1, c - 1, a, d⟩) ?_ (by omega)) ?_)
                all_goals first
                  | (dsimp only; (repeat' split) <;> omega)
                  | (unfold runN; dsimp only; (repeat' split) <;> omega)
                  | (rw [HRF.out]; done)
                  | (rw [HRF.out]; exact upd_ne _ (by omega))
                  | (refine own_low ?_ _ _ (by first | (simp; done) | (simp; omega)); repeat (first | (with_reducible exact S8.out.row) | refine own_low ?_ _ _ (by first | (simp; done) | (simp; omega))))
                  | (repeat (first | (with_reducible exact S8.out.below) | refine below_low ?_ _ _ (by first | (simp; done) | (simp; omega))))
          · have q4 : (c - 1 == 0) = false := by simp; omega
            have HRF := Lib.hid (show runF f = upd f 0 ⟨l - 1, c - 1, a, d⟩ from by
              unfold runF
              rw [HF0.out, if_neg (by dsimp only; omega)]
              unfold runJ
              dsimp only
              rw [if_pos hc0])
            go_wp2_with fail
            all_goals
              apply bodyPost_ret
              · simp [results, Tryz.results72, go_sem, y0, y1, y2, y3, y4, y5, y6, y7]
                exact rfl
              · rfl
              · rw [HF0.out]
                refine ⟨_, ret_run (by unfold runW; dsimp only; (repeat' split) <;> omega) (by unfold runL; dsimp only; (repeat' split) <;> omega), ?_⟩
                have hK0 := HNC.out
                first
                  | (refine task_run2 (ac_eq rfl rfl rfl ?_ ?_ ?_) ?_ (fun i hi => rfl) (jobs_none2 _ _ _ _ (runF f) (by omega)) ?_)
                  | (refine task_run2 (ac_eq rfl rfl rfl ?_ ?_ ?_) ?_ (fun i hi => ?_) (jobs_tail2 (B := w.heap.size + 2) (F := upd f 0 ⟨l - 1, c - 1, a, d⟩) ?_ (by omega)) ?_)
                  | (refine task_run2 (ac_eq rfl rfl rfl ?_ ?_ ?_) ?_ (fun i hi => ?_) (own_jobs2 (B := w.heap.size + 2) (f := upd f 0 ⟨l - 1, c - 1, a, d⟩) ?_ (by omega)) ?_)
                all_goals first
                  | (dsimp only; (repeat' split) <;> omega)
                  | (unfold runN; dsimp only; (repeat' split) <;> omega)
                  | (rw [HRF.out]; done)
                  | (rw [HRF.out]; exact upd_ne _ (by omega))
                  | (refine own_low ?_ _ _ (by first | (simp; done) | (simp; omega)); repeat (first | (with_reducible exact S8.out.row) | refine own_low ?_ _ _ (by first | (simp; done) | (simp; omega))))
                  | (repeat (first | (with_reducible exact S8.out.below) | refine below_low ?_ _ _ (by first | (simp; done) | (simp; omega))))
    · have S7 := Lib.hid (S1.out ⟨l - 1, c, a, d⟩ (kg + 1) (ko + 1))
      go_upto_region 17 with fail
      go_cut [8] (fun jv wx => ∃ J, jv = .pointer (some ⟨J, 0, none⟩) ∧ St w p (.slice (some ⟨g, 0, none⟩) n c4) ⟨kg + 1, ko + 1, kn, kd, kc, kt⟩ J ⟨l - 1, c, a, d⟩ g n c4 (upd f 0 ⟨l - 1, c, a, d⟩) wx)
      case first =>
        go_wp2_with fail
        go_meet
        exact ⟨_, rfl, S7.out⟩
      case rest =>
        obtain ⟨wc0, rfl, hcut⟩ := hcut
        have S8 := Lib.hid hcut
        obtain ⟨x0, x1, x2, x3, x4, x5, x6, x7⟩ := hcut.t.cells
        obtain ⟨y0, y1, y2, y3, y4, y5, y6, y7⟩ := hcut.r.cells
        obtain ⟨j0, j1, j2, j3⟩ := hcut.j.cells
        have f3 : ∀ j, wc.frozen? ⟨w.heap.size, j, none⟩ = false := fun j => has_free hcut.t j
        have f4 : ∀ j, wc.frozen? ⟨w.heap.size + 1, j, none⟩ = false := fun j => has_free hcut.r j
        have hJl : w.heap.size + 2 ≤ wc0 := hcut.Jl
        have hsw : w.heap.size + 1 < wc.heap.size := has_lt hcut.r
        clear hcut S7 S1 f0 f2 e0 e1 e2 e3
        by_cases q1 : l = 1
        · have q2 : (l - 1 == 0) = true := by simp; omega
          have HRF := Lib.hid (show runF f = fun i => f (i + 1) from if_pos (.inl (by rw [HF0.out]; exact q1)))
          go_wp2_with fail
          all_goals
            apply bodyPost_ret
            · simp [results, Tryz.results72, go_sem, y0, y1, y2, y3, y4, y5, y6, y7]
              exact rfl
            · rfl
            · rw [HF0.out]
              refine ⟨_, ret_run (by unfold runW; dsimp only; (repeat' split) <;> omega) (by unfold runL; dsimp only; (repeat' split) <;> omega), ?_⟩
              have hK0 := HNC.out
              first
                | (refine task_run2 (ac_eq rfl rfl rfl ?_ ?_ ?_) ?_ (fun i hi => rfl) (jobs_none2 _ _ _ _ (runF f) (by omega)) ?_)
                | (refine task_run2 (ac_eq rfl rfl rfl ?_ ?_ ?_) ?_ (fun i hi => ?_) (jobs_tail2 (B := w.heap.size + 2) (F := upd f 0 ⟨l - 1, c, a, d⟩) ?_ (by omega)) ?_)
                | (refine task_run2 (ac_eq rfl rfl rfl ?_ ?_ ?_) ?_ (fun i hi => ?_) (own_jobs2 (B := w.heap.size + 2) (f := upd f 0 ⟨l - 1, c, a, d⟩) ?_ (by omega)) ?_)
              all_goals first
                | (dsimp only; (repeat' split) <;> omega)
                | (unfold runN; dsimp only; (repeat' split) <;> omega)
                | (rw [HRF.out]; done)
                | (rw [HRF.out]; exact upd_ne _ (by omega))
                | (refine own_low ?_ _ _ (by first | (simp; done) | (simp; omega)); repeat (first | (with_reducible exact S8.out.row) | refine own_low ?_ _ _ (by first | (simp; done) | (simp; omega))))
                | (repeat (first | (with_reducible exact S8.out.below) | refine below_low ?_ _ _ (by first | (simp; done) | (simp; omega))))
        · have q2 : (l - 1 == 0) = false := by simp; omega
          have HRF := Lib.hid (show runF f = upd f 0 ⟨l - 1, c, a, d⟩ from by
              unfold runF
              rw [HF0.out, if_neg (by dsimp only; omega)]
              unfold runJ
              dsimp only
              rw [if_neg hc0])
          go_wp2_with fail
          all_goals
            apply bodyPost_ret
            · simp [results, Tryz.results72, go_sem, y0, y1, y2, y3, y4, y5, y6, y7]
              exact rfl
            · rfl
            · rw [HF0.out]
              refine ⟨_, ret_run (by unfold runW; dsimp only; (repeat' split) <;> omega) (by unfold runL; dsimp only; (repeat' split) <;> omega), ?_⟩
              have hK0 := HNC.out
              first
                | (refine task_run2 (ac_eq rfl rfl rfl ?_ ?_ ?_) ?_ (fun i hi => rfl) (jobs_none2 _ _ _ _ (runF f) (by omega)) ?_)
                | (refine task_run2 (ac_eq rfl rfl rfl ?_ ?_ ?_) ?_ (fun i hi => ?_) (jobs_tail2 (B := w.heap.size + 2) (F := upd f 0 ⟨l - 1, c, a, d⟩) ?_ (by omega)) ?_)
                | (refine task_run2 (ac_eq rfl rfl rfl ?_ ?_ ?_) ?_ (fun i hi => ?_) (own_jobs2 (B := w.heap.size + 2) (f := upd f 0 ⟨l - 1, c, a, d⟩) ?_ (by omega)) ?_)
              all_goals first
                | (dsimp only; (repeat' split) <;> omega)
                | (unfold runN; dsimp only; (repeat' split) <;> omega)
                | (rw [HRF.out]; done)
                | (rw [HRF.out]; exact upd_ne _ (by omega))
                | (refine own_low ?_ _ _ (by first | (simp; done) | (simp; omega)); repeat (first | (with_reducible exact S8.out.row) | refine own_low ?_ _ _ (by first | (simp; done) | (simp; omega))))
                | (repeat (first | (with_reducible exact S8.out.below) | refine below_low ?_ _ _ (by first | (simp; done) | (simp; omega))))
/-- Run, every way. -/
theorem rrun_any2 (p : Int) (s : Value) (n : Nat) (f : Nat → Jb) (k : Ac) (now : Int) (w : World) (h : Jobs w s n f) :
    Calls Tryz.prog 72 #[tV p s k, .int .i64 now] w fun e w' => ∃ x, e = .returned (.tuple #[x, .int .i64 (if runE p n f k now = 0 then runW (f 0) else 0), .int .i64 (if runE p n f k now = 0 then runL (f 0) now else 0), .int .i64 (runE p n f k now)]) ∧
      TaskR2 w (if runE p n f k now = 0 then p else 0) (if runE p n f k now = 0 then runN n (f 0) else 0) (runF f) (if runE p n f k now = 0 then runK k (f 0) now else kZ) x w' := by
  by_cases hv : okT p n f k
  · by_cases hn : 0 ≤ now ∧ now < 1073741824
    · by_cases h0 : n = 0
      · have hE : runE p n f k now = 50 := by unfold runE; rw [if_neg (fun h => h hv), if_neg (fun h => h hn), if_pos h0]
        rw [hE]
        exact (rrun_none p s n f k now w h hv hn h0).mono fun e w' ⟨he, hb⟩ => ⟨_, he, zero_taskR2 _ hb⟩
      · by_cases hg : k.g = 1073741824
        · have hE : runE p n f k now = 60 := by unfold runE; rw [if_neg (fun h => h hv), if_neg (fun h => h hn), if_neg h0, if_pos hg]
          rw [hE]
          exact (rrun_time p s n f k now w h hv hn (by omega) hg).mono fun e w' ⟨he, hb⟩ => ⟨_, he, zero_taskR2 _ hb⟩
        · have hE : runE p n f k now = 0 := by unfold runE; rw [if_neg (fun h => h hv), if_neg (fun h => h hn), if_neg h0, if_neg hg]
          rw [hE]
          have hk := hv.2.2.2.1.1.2
          exact (rrun_ok2 p s n f k now w h hv hn (by omega) (by omega)).mono fun e w' ⟨x, he, hb⟩ => ⟨x, he, hb⟩
    · have hE : runE p n f k now = 1 := by unfold runE; rw [if_neg (fun h => h hv), if_pos hn]
      rw [hE]
      by_cases h1 : now < 0
      · exact (rrun_arg1 p s n f k now w h hv h1).mono fun e w' ⟨he, hb⟩ => ⟨_, he, zero_taskR2 _ hb⟩
      · exact (rrun_arg2 p s n f k now w h hv h1 (by omega)).mono fun e w' ⟨he, hb⟩ => ⟨_, he, zero_taskR2 _ hb⟩
  · have hE : runE p n f k now = 270 := if_pos hv
    rw [hE]
    exact (rrun_state p s n f k now w h hv).mono fun e w' ⟨he, hb⟩ => ⟨_, he, zero_taskR2 _ hb⟩
end Go.Proofs.YtedgchafligndaaGreat
/- The document's own pool as it lies in memory; name, find; no condition but those that each row names. -/
namespace Go.Proofs.YtedgchafligndaaGreat
open Go.RowKit Tsk

abbrev PT14 : TypeId := 39
abbrev pv (gs ts ks : Value) (last : Int) : Value := .agg #[gs, ts, ks, .int .i64 last]
/-- A pool in a block of its own. -/
def HasP (W : World) (g : Nat) (gs ts ks : Value) (last : Int) : Prop := Has W g (.cells #[gs, ts, ks, .int .i64 last] PT14 (0, 0))
theorem HasP.below {W W' : World} {g : Nat} {gs ts ks : Value} {last : Int} (h : HasP W g gs ts ks last) (hb : Below W.heap.size W W') : HasP W' g gs ts ks last := (hb.block g (has_lt h)).trans h
theorem HasP.cells {W : World} {g : Nat} {gs ts ks : Value} {last : Int} (h : HasP W g gs ts ks last) : W.cell? ⟨g, 0, none⟩ = some gs ∧ W.cell? ⟨g, 1, none⟩ = some ts ∧ W.cell? ⟨g, 2, none⟩ = some ks ∧ W.cell? ⟨g, 3, none⟩ = some (.int .i64 last) :=
  ⟨(has_cell h 0).trans rfl, (has_cell h 1).trans rfl, (has_cell h 2).trans rfl, (has_cell h 3).trans rfl⟩
theorem hasP_new (w : World) (gs ts ks : Value) (last : Int) : HasP (w.alloc (.cells #[gs, ts, ks, .int .i64 last] PT14)) w.heap.size gs ts ks last := has_new _ _ _ rfl
/-- The document's pool in a world. -/
structure DP (X : Nat → Prop) (w : World) (A : Tab) (T : Nat → Tk) (gs ts ks : Value) : Prop where
  g : Lst X w gs (ints A.gens)
  t : Lst X w ts (bools A.taken)
  k : ∃ sl, TasksX X w ks 16 (tm T sl)
theorem DP.keeps {X : Nat → Prop} {w w' : World} {A : Tab} {T : Nat → Tk} {gs ts ks : Value} (h : DP X w A T gs ts ks) (hk : Keeps X w w') : DP X w' A T gs ts ks := by
  obtain ⟨sl, hs⟩ := h.k
  exact ⟨h.g.keeps hk, h.t.keeps hk, sl, hs.keeps hk (fun _ k => k)⟩
theorem DP.below {X : Nat → Prop} {w w' : World} {A : Tab} {T : Nat → Tk} {gs ts ks : Value} (h : DP X w A T gs ts ks) (hb : Below w.heap.size w w') : DP X w' A T gs ts ks := h.keeps (Keeps.of_below hb)
theorem DP.mono {X Y : Nat → Prop} {w : World} {A : Tab} {T : Nat → Tk} {gs ts ks : Value} (h : DP X w A T gs ts ks) (hy : ∀ x, x < w.heap.size → Y x → X x) : DP Y w A T gs ts ks := by
  obtain ⟨sl, hs⟩ := h.k
  exact ⟨h.g.mono hy, h.t.mono hy, sl, hs.mono hy⟩
/-- A pool that may be. -/
structure PGood (A : Tab) (T : Nat → Tk) (last : Int) : Prop where
  tab : A.Good
  kind : A.kind = 3
  len : A.gens.length = 16
  ok : ∀ i, okTk (T i)
  lo : -1 ≤ last
  hi : last < 16
/-- Its slices, its cells in every later world. -/
theorem DP.shape {X : Nat → Prop} {w : World} {A : Tab} {T : Nat → Tk} {gs ts ks : Value} {last : Int} (h : DP X w A T gs ts ks) (hg : PGood A T last) : ∃ p cp q cq r cr sl, gs = .slice p 16 cp ∧ ts = .slice q 16 cq ∧ ks = .slice r 16 cr ∧
    (∀ W, Below w.heap.size w W → ∀ i, i < 16 → ∃ b off, p = some ⟨b, off, none⟩ ∧ W.cell? ⟨b, off + i, none⟩ = some (.int .i64 (A.g i))) ∧
    (∀ W, Below w.heap.size w W → ∀ i, i < 16 → ∃ b off, q = some ⟨b, off, none⟩ ∧ W.cell? ⟨b, off + i, none⟩ = some (.bool (A.t i))) ∧ TasksX X w (.slice r 16 cr) 16 (tm T sl) := by
  have h1 := hg.len
  have h2 := hg.tab.lt
  obtain ⟨⟨p, cp, e1, _, c1⟩, ⟨q, cq, e2, _, c2⟩, sl, hs⟩ := h
  obtain ⟨r, cr, e3, _⟩ := id hs.tk
  rw [ints_len, h1] at e1
  rw [bools_len, h2, h1] at e2
  refine ⟨p, cp, q, cq, r, cr, sl, e1, e2, e3, fun W hb i hi => ?_, fun W hb i hi => ?_, e3 ▸ hs⟩
  · obtain ⟨b, off, e, _, hc⟩ := c1 i _ (ints_at (by omega))
    exact ⟨b, off, e, (hb.cell (p := ⟨b, off + i, none⟩) (cell_lt hc)).trans hc⟩
  · obtain ⟨b, off, e, _, hc⟩ := c2 i _ (bools_at (by omega))
    exact ⟨b, off, e, (hb.cell (p := ⟨b, off + i, none⟩) (cell_lt hc)).trans hc⟩
theorem rmake_ok (k s g : Int) (w : World) (h : okP k s g) :
    Calls Tryz.prog 68 #[.int .i64 k, .int .i64 s, .int .i64 g] w fun e w' => e = .returned (.tuple #[.int .i64 (mkH k s g), .int .i64 0]) ∧ w = w' := by
  obtain ⟨h1, h2, h3, h4, h5, h6⟩ := h
  go_enter Tryz.func68, Tryz.ntmps68
  go_wp2
  go_ret2
  exact ⟨rfl, rfl⟩
/-- The handle of a slot whose generation may be given. -/
theorem rname (X : Nat → Prop) (A : Tab) (T : Nat → Tk) (last : Int) (hg : PGood A T last) (gs ts ks : Value) (w : World) (h : DP X w A T gs ts ks) (i : Nat) (hi : i < 16) (h1 : A.g i ≤ 1023) :
    Calls Tryz.prog 36 #[pv gs ts ks last, .int .i64 i] w fun e w' => e = .returned (.int .i64 (A.hd i)) ∧ Below w.heap.size w w' := by
  obtain ⟨p, cp, q, cq, r, cr, sl, rfl, rfl, rfl, hc, _, _⟩ := h.shape hg
  have HM := Lib.hid (fun w => rmake_ok 3 i (A.g i) w ⟨by omega, by omega, by omega, by omega, (hg.tab.g1 i (by have := hg.len; omega)).1, h1⟩)
  have hhd : A.hd i = mkH 3 i (A.g i) := by show mkH A.kind i (A.g i) = _; rw [hg.kind]
  rw [hhd]
  have hwa : Below w.heap.size w (w.alloc (.cells #[.slice p 16 cp, .slice q 16 cq, .slice r 16 cr, .int .i64 last] PT14)) := (Below.refl _ _).alloc (Nat.le_refl _) _
  obtain ⟨b, off, rfl, hcell⟩ := hc _ hwa i hi
  have HB := Lib.hid hwa
  have z0 : (0 : Int) ≤ (i : Int) := by omega
  have z1 : (i : Int) < 16 := by omega
  generalize A.g i = g at *
  clear hc hg h hwa hhd h1
  go_enter Tryz.func36, Tryz.ntmps36
  go_wp2_with fail
  refine (HM.out _).mono ?_
  rintro e w1 ⟨rfl, rfl⟩
  go_wp2_with fail
  go_ret
  exact ⟨rfl, HB.out⟩
set_option maxHeartbeats 4000000 in
set_option maxRecDepth 100000 in
theorem rfind14 (X : Nat → Prop) (A : Tab) (T : Nat → Tk) (last : Int) (hg : PGood A T last) (x : Int) (gs ts ks : Value) (w : World) (h : DP X w A T gs ts ks) :
    Calls Tryz.prog 70 #[pv gs ts ks last, .int .i64 x] w fun e w' => e = .returned (.int .i64 (optV (A.find x))) ∧ Below w.heap.size w w' := by
  have HNM := Lib.hid (fun W (hb : Below w.heap.size w W) i (hi : i < 16) (ht : A.t i = true) => rname X A T last hg gs ts ks W (h.below hb) i hi (hg.tab.gt i (by have := hg.len; omega) ht))
  obtain ⟨p, cp, q, cq, r, cr, sl, rfl, rfl, rfl, hc, hct, _⟩ := h.shape hg
  have HC := Lib.hid hct
  have HN := Lib.hid (show A.n = 16 from hg.len)
  obtain ⟨WA, hWA⟩ : ∃ WA, WA = w.alloc (.cells #[.slice p 16 cp, .slice q 16 cq, .slice r 16 cr, .int .i64 last] PT14) := ⟨_, rfl⟩
  have HB := Lib.hid (show Below w.heap.size w WA from by rw [hWA]; exact (Below.refl _ _).alloc (Nat.le_refl _) _)
  have HT := Lib.hid (show HasP WA w.heap.size (.slice p 16 cp) (.slice q 16 cq) (.slice r 16 cr) last from by rw [hWA]; exact hasP_new _ _ _ _ _)
  have HW := Lib.hid hWA
  clear hWA h hg hc hct
  go_enter Tryz.func70, Tryz.ntmps70
  go_upto_region 1 with fail
  rw [← HW.out]
  obtain ⟨a0, a1, a2, a3⟩ := HT.out.cells
  go_wp2_with fail
  go_loopw [5] (fun iv wr => ∃ k : Nat, k ≤ 16 ∧ iv = .int .i64 k ∧ Hid (∀ j, j < k → A.is x j = false) ∧ Hid (Below WA.heap.size WA wr)) (fun iv _ => 16 - (intOf iv).toNat)
  case atStart => exact ⟨0, Nat.zero_le _, rfl, Lib.hid (fun j hj => by omega), Lib.hid (Below.refl _ _)⟩
  case round =>
    clear a0 a1 a2 a3
    obtain ⟨k, hk, rfl, HF, HBX⟩ := hrel
    obtain ⟨a0, a1, a2, a3⟩ := HasP.cells (HT.out.below HBX.out)
    have z0 : (0 : Int) ≤ (k : Int) := by omega
    by_cases hlt : k < 16
    · have z1 : (k : Int) < 16 := by omega
      obtain ⟨b, off, rfl, hcb⟩ := HC.out _ (bnext HB.out HBX.out) k hlt
      have HLT := Lib.hid hlt
      cases htk : A.t k with
      | false =>
        rw [htk] at hcb
        have HF' := Lib.hid (show ∀ j, j < k + 1 → A.is x j = false from fun j hj => by
          by_cases h : j < k
          · exact HF.out j h
          · obtain rfl : j = k := by omega
            unfold Tab.is; simp [htk])
        clear htk
        go_wp2_with fail
        go_roundw
        case rel => exact ⟨k + 1, by omega, by go_num, HF', HBX⟩
        case measure => simp [intOf]; omega
      | true =>
        rw [htk] at hcb
        have HNK := Lib.hid (fun W hb => HNM.out W hb k hlt htk)
        have HTK := Lib.hid htk
        clear htk
        have HNK1 := Lib.hid (HNK.out wr (bnext HB.out HBX.out))
        by_cases hx : A.hd k = x
        · have HR := Lib.hid (show A.find x = some k from firstIn_some (p := A.is x) (n := A.n) HF.out (by have := HN.out; omega) (by unfold Tab.is; rw [HTK.out]; simp [hx]))
          have hq : (A.hd k == x) = true := by rw [beq_iff_eq]; exact hx
          clear hx
          generalize A.hd k = y at *
          go_wp2_with fail
          refine HNK1.out.mono ?_
          rintro e w4 ⟨rfl, hb4⟩
          go_wp2_with fail
          go_ret
          exact ⟨ret_int (by rw [HR.out]; rfl), bnext (bnext HB.out HBX.out) hb4⟩
        · have HF' := Lib.hid (show ∀ j, j < k + 1 → A.is x j = false from fun j hj => by
            by_cases h : j < k
            · exact HF.out j h
            · obtain rfl : j = k := by omega
              unfold Tab.is; simp [hx])
          have hq : (A.hd k == x) = false := by rw [beq_eq_false_iff_ne]; exact hx
          clear hx
          generalize A.hd k = y at *
          go_wp2_with fail
          refine HNK1.out.mono ?_
          rintro e w4 ⟨rfl, hb4⟩
          go_wp2_with fail
          go_roundw
          case rel => exact ⟨k + 1, by omega, by go_num, HF', Lib.hid (bnext HBX.out hb4)⟩
          case measure => simp [intOf]; omega
    · go_wp2_with fail
      go_ret
      obtain rfl : k = 16 := by omega
      exact ⟨ret_int (by rw [show A.find x = none from firstIn_none (fun j hj => HF.out j (by have := HN.out; omega))]; rfl), bnext HB.out HBX.out⟩
end Go.Proofs.YtedgchafligndaaGreat
/- The program's pool as it lies in memory: two cells, a table of tasks, the tasks' jobs, the last one; what stays where others turn; nothing of the program is walked; no condition. -/
namespace Go.Proofs.YtedgchafligndaaGreat
open Go.RowKit Tsk

/-- The last one as it is noted. -/
def LastAt (w : World) (bl : Nat) (la : Int) : Prop := w.cell? ⟨bl, 1, none⟩ = some (.int .i64 la) ∧ ∀ o, w.frozen? ⟨bl, o, none⟩ = false
theorem LastAt.keeps {R : Nat → Prop} {w w' : World} {bl : Nat} {la : Int} (h : LastAt w bl la) (hk : Keeps R w w') (hn : ¬ R bl) : LastAt w' bl la := by
  have hl := cell_lt h.1
  refine ⟨(hk.cell (p := ⟨bl, 1, none⟩) hl hn).trans h.1, fun o => ?_⟩
  have h1 := h.2 o
  have h2 := hk.block bl hl hn
  unfold World.frozen? at h1 ⊢
  rw [h2]
  exact h1
/-- The program's pool in a world: its blocks S, its jobs in none of X. -/
def Pl (S X : Nat → Prop) (B : Nat) (w : World) (A : Tab) (T : Nat → Tk) (la : Int) (v : Value) : Prop :=
  Lf S X B w A T v ∧ ∃ bl : Nat, v = .pointer (some ⟨bl, 0, none⟩) ∧ LastAt w bl la
theorem Pl.parts {S X : Nat → Prop} {B : Nat} {w : World} {A : Tab} {T : Nat → Tk} {la : Int} {v : Value} (h : Pl S X B w A T la v) :
    ∃ (sl : Nat → Value) (bl : Nat) (ST : Nat → Prop) (tv : Value), v = .pointer (some ⟨bl, 0, none⟩) ∧ w.cell? ⟨bl, 0, none⟩ = some tv ∧ LastAt w bl la ∧ PKTab ST B w A (tm T sl) tv ∧ (B ≤ bl ∧ ¬ ST bl) ∧ (S = fun x => x = bl ∨ ST x) ∧ ∀ i, JobsX X w (sl i) (T i).n (T i).f := by
  obtain ⟨⟨sl, bl, ST, tv, rfl, h1, h2, h3, h4, h5⟩, bl', e, h6⟩ := h
  cases e
  exact ⟨sl, bl, ST, tv, rfl, h1, h6, h2, h3, h4, h5⟩
theorem Pl.of {S X : Nat → Prop} {B : Nat} {w : World} {A : Tab} {T : Nat → Tk} {la : Int} {v : Value} {sl : Nat → Value} {bl : Nat} {ST : Nat → Prop} {tv : Value} (h0 : v = .pointer (some ⟨bl, 0, none⟩)) (h1 : w.cell? ⟨bl, 0, none⟩ = some tv) (h2 : LastAt w bl la) (h3 : PKTab ST B w A (tm T sl) tv) (h4 : B ≤ bl ∧ ¬ ST bl) (h5 : S = fun x => x = bl ∨ ST x) (h6 : ∀ i, JobsX X w (sl i) (T i).n (T i).f) : Pl S X B w A T la v :=
  ⟨⟨sl, bl, ST, tv, h0, h1, h3, h4, h5, h6⟩, bl, h0, h2⟩
theorem Pl.lt {S X : Nat → Prop} {B : Nat} {w : World} {A : Tab} {T : Nat → Tk} {la : Int} {v : Value} (h : Pl S X B w A T la v) : ∀ x, S x → B ≤ x ∧ x < w.heap.size := h.1.lt
theorem Pl.ptr {S X : Nat → Prop} {B : Nat} {w : World} {A : Tab} {T : Nat → Tk} {la : Int} {v : Value} (h : Pl S X B w A T la v) : ∃ bl, v = .pointer (some ⟨bl, 0, none⟩) ∧ S bl := by
  obtain ⟨sl, bl, ST, tv, rfl, _, _, _, _, rfl, _⟩ := h.parts
  exact ⟨bl, rfl, .inl rfl⟩
theorem Pl.keeps {S X R : Nat → Prop} {B : Nat} {w w' : World} {A : Tab} {T : Nat → Tk} {la : Int} {v : Value} (h : Pl S X B w A T la v) (hk : Keeps R w w') (hd : ∀ x, S x → ¬ R x) (hR : ∀ x, R x → X x) : Pl S X B w' A T la v := by
  obtain ⟨bl', e', hs⟩ := h.ptr
  obtain ⟨h1, bl, e, h6⟩ := h
  have : bl = bl' := by rw [e] at e'; cases e'; rfl
  subst this
  exact ⟨h1.keeps hk hd hR, bl, e, h6.keeps hk (hd bl hs)⟩
theorem Pl.below {S X : Nat → Prop} {B : Nat} {w w' : World} {A : Tab} {T : Nat → Tk} {la : Int} {v : Value} (h : Pl S X B w A T la v) (hb : Below w.heap.size w w') : Pl S X B w' A T la v :=
  h.keeps (R := fun _ => False) (Keeps.of_below hb) (fun _ _ k => k) (fun _ k => k.elim)
theorem Pl.mono {S X Y : Nat → Prop} {B : Nat} {w : World} {A : Tab} {T : Nat → Tk} {la : Int} {v : Value} (h : Pl S X B w A T la v) (hy : ∀ x, x < w.heap.size → Y x → X x) : Pl S Y B w A T la v := ⟨h.1.mono hy, h.2⟩
/-- What a call leaves. -/
def PlPost (S X : Nat → Prop) (B : Nat) (w : World) (A : Tab) (T : Nat → Tk) (la : Int) (v r : Value) (e : Ending) (w' : World) : Prop := e = .returned r ∧ Pl S X B w' A T la v ∧ Keeps S w w'
/-- The pool behind a step of its table: another task at a slot. -/
theorem Pl.act {S X : Nat → Prop} {B : Nat} {w0 w' : World} {A' : Tab} {T : Nat → Tk} {la : Int} {v : Value} {sl : Nat → Value} {bl : Nat} {ST : Nat → Prop} {tv : Value} (hv : v = .pointer (some ⟨bl, 0, none⟩)) (hc : w0.cell? ⟨bl, 0, none⟩ = some tv) (hc1 : LastAt w0 bl la) (hb : B ≤ bl ∧ ¬ ST bl) (hS : S = fun x => x = bl ∨ ST x) (hj : ∀ i, JobsX X w0 (sl i) (T i).n (T i).f) (hX : ∀ x, S x → X x)
    {i : Nat} {p : Int} {s : Value} {n : Nat} {f : Nat → Jb} {k : Ac} (s0 : Value) (ht : PKTab ST B w' A' (upd (tm T sl) i ⟨p, s, n, f, k⟩) tv) (hk2 : Keeps ST w0 w') (hn : JobsX X w' s n f) :
    Pl S X B w' A' (upd T i ⟨p, s0, n, f, k⟩) la v ∧ Keeps S w0 w' := by
  obtain ⟨h1, h2⟩ := Lf.act2 hv hc hb hS hj hX s0 ht hk2 hn
  exact ⟨⟨h1, bl, hv, hc1.keeps hk2 hb.2⟩, h2⟩
/-- The same, the step begun in a later world. -/
theorem Pl.actA {S X : Nat → Prop} {B : Nat} {w0 w w' : World} {A' : Tab} {T : Nat → Tk} {la : Int} {v : Value} {sl : Nat → Value} {bl : Nat} {ST : Nat → Prop} {tv : Value} (hv : v = .pointer (some ⟨bl, 0, none⟩)) (hc : w0.cell? ⟨bl, 0, none⟩ = some tv) (hc1 : LastAt w0 bl la) (hb : B ≤ bl ∧ ¬ ST bl) (hS : S = fun x => x = bl ∨ ST x) (hj : ∀ i, JobsX X w0 (sl i) (T i).n (T i).f) (hX : ∀ x, S x → X x)
    (h0 : Below w0.heap.size w0 w) {i : Nat} {p : Int} {s : Value} {n : Nat} {f : Nat → Jb} {k : Ac} (s0 : Value) (ht : PKTab ST B w' A' (upd (tm T sl) i ⟨p, s, n, f, k⟩) tv) (hk : Keeps ST w w') (hn : JobsX X w s n f) :
    Pl S X B w' A' (upd T i ⟨p, s0, n, f, k⟩) la v ∧ Keeps S w0 w' :=
  Pl.act hv hc hc1 hb hS hj hX s0 ht ((Keeps.of_below h0).trans hk) (hn.keeps hk (fun x hx => hX x (by rw [hS]; exact .inr hx)))
/-- The last one is another. -/
theorem Pl.last {S X : Nat → Prop} {B : Nat} {w : World} {A : Tab} {T : Nat → Tk} {la : Int} {bl : Nat} (h : Pl S X B w A T la (.pointer (some ⟨bl, 0, none⟩))) (hX : ∀ x, S x → X x) (z : Int) :
    Pl S X B (w.setCell ⟨bl, 1, none⟩ (.int .i64 z)) A T z (.pointer (some ⟨bl, 0, none⟩)) ∧ Keeps S w (w.setCell ⟨bl, 1, none⟩ (.int .i64 z)) := by
  obtain ⟨sl, bl', ST, tv, e, h1, h2, h3, h4, h5, h6⟩ := h.parts
  cases e
  have hS : S bl := by rw [h5]; exact .inl rfl
  have hk : Keeps (fun x => x = bl) w (w.setCell ⟨bl, 1, none⟩ (.int .i64 z)) := (Keeps.refl (fun x => x = bl) w).setS _ _ rfl
  exact ⟨Pl.of rfl ((World.cell?_setCell_other _ _ _ _ (by simp)).trans h1) ⟨World.cell?_setCell_same _ _ _ h2.1, fun o => by simpa using h2.2 o⟩ (h3.keeps hk (fun x hx e => h4.2 (e ▸ hx))) h4 h5 (fun i => (h6 i).keeps hk (fun x e => e ▸ hX bl hS)), (Keeps.refl S w).setS _ _ hS⟩
theorem PGood.lgood {A : Tab} {T : Nat → Tk} {la : Int} (h : PGood A T la) (i : Nat) : (T i).n ≤ 8 := (h.ok i).2.1
end Go.Proofs.YtedgchafligndaaGreat
/- The program's pool: twin, New, List, Of; no condition but those that each row names. -/
namespace Go.Proofs.YtedgchafligndaaGreat
open Go.RowKit Tsk

set_option maxHeartbeats 1000000 in
set_option maxRecDepth 100000 in
theorem jclone (s : Value) (n : Nat) (f : Nat → Jb) (w : World) (h : Jobs w s n f) (hn : n * 32 ≤ 140737488355328) :
    Calls Tryz.prog 56 #[s] w fun e w' => ∃ p c, e = .returned (.slice p n c) ∧ JobsO w.heap.size w' (.slice p n c) n f ∧ Below w.heap.size w w' := by
  have HJ := Lib.hid h
  obtain ⟨q, cap, rfl, _, hc⟩ := h
  cases q with
  | none =>
    have hn0 : n = 0 := by
      rcases Nat.eq_zero_or_pos n with e | e
      · exact e
      · obtain ⟨b, off, e, _⟩ := hc 0 e
        cases e
    subst hn0
    have hnil := fun w => Lib.run_eql_slice_nil (P := Tryz.prog) w 28 _ none 0 cap 0 0 Tryz.underlying28
    clear hc
    go_enter Tryz.func56, Tryz.ntmps56
    go_wp2_with fail
    go_ret
    exact ⟨none, 0, rfl, World.ownsRow_nil _ _ _ _, Below.refl _ _⟩
  | some a =>
    have hnil := fun w => Lib.run_eql_slice_nil (P := Tryz.prog) w 28 _ (some a) n cap 0 0 Tryz.underlying28
    have HB0 := Lib.hid (fun o => show Below w.heap.size w (w.alloc o) from (Below.refl _ _).alloc (Nat.le_refl _) o)
    clear hc
    go_enter Tryz.func56, Tryz.ntmps56
    go_wp2_with (at_builtin; refine wpList_append_jobs rfl _ _ rfl w.heap.size (.slice (some ⟨w.heap.size, 0, none⟩) 0 0) 0 [] rfl (World.ownsRow_made _ _ 0 (Nat.le_refl _) (by simp [maxLen]) rfl) _ n (jbL f n) rfl (src_jobs (HJ.out.below (HB0.out _))) (jbL_one _ _) (by omega) (by simp) ?_)
    intro p2 c2 w3 ho3 hg3 ha3
    have HB3 := Lib.hid (show Below w.heap.size w w3 from (HB0.out _).grown hg3 (by simp) (fun k e => by simp [Value.ownBlock] at e; omega))
    have HO3 := Lib.hid (show JobsO w.heap.size w3 (.slice p2 n c2) n f from by
      try rw [Nat.zero_add] at ho3
      exact ho3)
    clear ho3 hg3 ha3
    go_wp2_with fail
    go_ret
    exact ⟨p2, c2, by simp, HO3.out, HB3.out⟩
/- A task copied. -/
set_option maxHeartbeats 1000000 in
set_option maxRecDepth 100000 in
theorem jtwin (p : Int) (s : Value) (n : Nat) (f : Nat → Jb) (k : Ac) (w : World) (h : Jobs w s n f) (hn : n * 32 ≤ 140737488355328) : Calls Tryz.prog 24 #[tV p s k] w fun e w' => ∃ x, e = .returned x ∧ TaskO w p n f k x w' := by
  have HJ := Lib.hid (fun W (hb : Below w.heap.size w W) => jclone s n f W (h.below hb) hn)
  obtain ⟨q, cap, rfl, _, _⟩ := h
  obtain ⟨kg, ko, kn, kd, kc, kt⟩ := k
  obtain ⟨WA, hWA⟩ : ∃ WA, WA = (w.alloc (.cells #[.int .i64 p, .slice q n cap, .int .i64 kg, .int .i64 ko, .int .i64 kn, .int .i64 kd, .int .i64 kc, .int .i64 kt] KT)).alloc (.cells #[.int .i64 0, .slice none 0 0, .int .i64 0, .int .i64 0, .int .i64 0, .int .i64 0, .int .i64 0, .int .i64 0] KT) := ⟨_, rfl⟩
  have HB := Lib.hid (show Below w.heap.size w WA from by rw [hWA]; exact ((Below.refl _ _).alloc (Nat.le_refl _) _).alloc (by simp) _)
  have HT := Lib.hid (show HasT WA w.heap.size p (.slice q n cap) ⟨kg, ko, kn, kd, kc, kt⟩ ∧ HasT WA (w.heap.size + 1) 0 (.slice none 0 0) ⟨0, 0, 0, 0, 0, 0⟩ ∧ WA.heap.size = w.heap.size + 2 from by
    rw [hWA]
    exact ⟨has_old (has_new w _ _ rfl) _, has_new _ _ _ (by simp), by simp⟩)
  have HW := Lib.hid hWA
  clear hWA
  go_enter Tryz.func24, Tryz.ntmps24
  go_upto_region 1 with fail
  rw [← HW.out]
  have x1 := HT.out.1.cells.2.1
  go_wp2_with fail
  refine (HJ.out WA HB.out).mono ?_
  rintro e w3 ⟨p2, c2, rfl, ho3, hb3⟩
  have HO3 := Lib.hid (show JobsO (w.heap.size + 2) w3 (.slice p2 n c2) n f from by have := HT.out.2.2; rw [this] at ho3; exact ho3)
  have HB3 := Lib.hid (bnext HB.out hb3)
  have HT3 := Lib.hid (show HasT w3 w.heap.size p (.slice q n cap) ⟨kg, ko, kn, kd, kc, kt⟩ ∧ HasT w3 (w.heap.size + 1) 0 (.slice none 0 0) ⟨0, 0, 0, 0, 0, 0⟩ from ⟨HT.out.1.below hb3, HT.out.2.1.below hb3⟩)
  clear x1 ho3 hb3
  obtain ⟨x0, x1, x2, x3, x4, x5, x6, x7⟩ := HT3.out.1.cells
  obtain ⟨y0, y1, y2, y3, y4, y5, y6, y7⟩ := HT3.out.2.cells
  have f0 : ∀ j, w3.frozen? ⟨w.heap.size, j, none⟩ = false := fun j => has_free HT3.out.1 j
  have f1 : ∀ j, w3.frozen? ⟨w.heap.size + 1, j, none⟩ = false := fun j => has_free HT3.out.2 j
  go_wp2_with fail
  refine bodyPost_ret (v := tV p (.slice p2 n c2) ⟨kg, ko, kn, kd, kc, kt⟩) (by simp [results, Tryz.results24, go_sem, y0, y1, y2, y3, y4, y5, y6, y7]) rfl ⟨_, rfl, p2, c2, rfl, ?_, ?_⟩
  · refine own_base2 (B := w.heap.size + 2) ?_ (by omega)
    repeat (first | (with_reducible exact HO3.out) | refine own_low ?_ _ _ (by simp))
  · repeat (first | (with_reducible exact HB3.out) | refine below_low ?_ _ _ (by simp))
/-- A new pool. -/
def NewPl (w : World) (e : Ending) (w' : World) : Prop := ∃ S v, e = .returned v ∧ (∀ X, Pl S X w.heap.size w' (Tab.new 3 16) (fun _ => tk0) (-1) v) ∧ Below w.heap.size w w'
set_option maxHeartbeats 1000000 in
theorem plnew (w : World) : Calls Tryz.prog 13 #[] w (NewPl w) := by
  have HN := Lib.hid (fun w => knew_ok 3 16 w (by omega) (by omega) (by omega) (by omega))
  rw [show ((16 : Nat) : Int) = 16 from rfl] at HN
  go_enter Tryz.func13, Tryz.ntmps13
  go_wp2_with fail
  refine (HN.out _).mono ?_
  rintro e w1 ⟨ST, tv, rfl, hp, hb⟩
  have HP := Lib.hid hp
  have HB := Lib.hid hb
  obtain ⟨b, g1, c1, g2, c2, g3, c3, rfl, _⟩ := hp
  clear hb
  go_wp2_with fail
  go_ret
  have hb := HB.out
  have hb2 : Below w1.heap.size w1 (w1.alloc (.cells #[.pointer (some ⟨b, 0, none⟩), .int .i64 (-1)] 72)) := (Below.refl _ _).alloc (Nat.le_refl _) _
  have hl := HP.out.lt
  exact ⟨fun x => x = w1.heap.size ∨ ST x, .pointer (some ⟨w1.heap.size, 0, none⟩), rfl, fun X => Pl.of (sl := fun _ => .slice none 0 0) (ST := ST) (tv := .pointer (some ⟨b, 0, none⟩)) rfl (by simp) ⟨by simp, fun o => by simp⟩ (HP.out.below hb2) ⟨hb.size, fun k => by have := (hl _ k).2; omega⟩ rfl (fun i => JobsX.nil _ _ _), hb.alloc hb.size _⟩
set_option maxHeartbeats 1000000 in
theorem pllist (S X Y : Nat → Prop) (B : Nat) (A : Tab) (T : Nat → Tk) (la : Int) (hg : PGood A T la) (w : World) (v : Value) (h : Pl S X B w A T la v) (hY : ∀ x, Y x → x < w.heap.size) :
    Calls Tryz.prog 16 #[v] w (AllPost Y w A) := by
  obtain ⟨sl, bl, ST, tv, rfl, hc, hcl, ht, hb, rfl, hj⟩ := h.parts
  have HA := Lib.hid (kall Y ST B A hg.tab (tm T sl) w tv ht hY)
  obtain ⟨b, g1, c1, g2, c2, g3, c3, rfl, _⟩ := ht
  clear hcl hj hg hY
  go_enter Tryz.func16, Tryz.ntmps16
  go_wp2_with fail
  refine HA.out.mono ?_
  rintro e w1 ⟨r, rfl, hl, hb1⟩
  have HL := Lib.hid hl
  have HB := Lib.hid hb1
  clear hl hb1
  go_wp2_with fail
  go_ret
  exact ⟨_, rfl, HL.out, HB.out⟩
end Go.Proofs.YtedgchafligndaaGreat
