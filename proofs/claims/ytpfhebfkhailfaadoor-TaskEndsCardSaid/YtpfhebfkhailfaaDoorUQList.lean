/- The program's List of a queue of jobs: all of them in a row of the call's own; no condition. -/
import Derived.Test.YtpfhebfkhailfaaDoorUQAll
import Derived.Maps.AppendAt
import Derived.Shelf.Abstract
import Derived.Deep.AppendLies
namespace Go.Proofs.YtpfhebfkhailfaaDoor
open Go.RowKit Go.Shelf Tsk
attribute [local go_sem] Oper.semAt_some

abbrev fL (f : Nat → Jb) (n : Nat) : List Jb := (List.range n).map f
theorem fL_at {f : Nat → Jb} {n k : Nat} {x : Jb} (h : (fL f n)[k]? = some x) : k < n ∧ x = f k := by
  have hk : k < n := by have := (List.getElem?_eq_some_iff.1 h).1; simpa using this
  simp [hk] at h
  exact ⟨hk, h.symm⟩
def JListPost (w : World) (n : Nat) (f : Nat → Jb) (e : Ending) (w' : World) : Prop := ∃ s cap, e = .returned (.slice s n cap) ∧ JobsO w.heap.size w' (.slice s n cap) n f ∧ Below w.heap.size w w'
def JListI (w : World) (q : Option Addr) (n : Nat) (f : Nat → Jb) (k : Nat) (W : World) : Prop :=
  (∃ v, Boxed W w.heap.size 22 v ∧ W.ownsRow w.heap.size JT 4 v k (jbL f k)) ∧ (k ≤ n ∧ Boxed W (w.heap.size + 1) 70 (.pointer q)) ∧ Below w.heap.size w W
theorem jlistI_own (w : World) (q : Option Addr) (n : Nat) (f : Nat → Jb) (B : Nat) (hB : w.heap.size ≤ B) : OwnFrom B (JListI w q n f) := by
  refine OwnFrom.and ?_ (OwnFrom.and ?_ (ownFrom_below (Nat.le_refl _) hB))
  · intro k W W' row ⟨v, hv, ho⟩ hg hr
    have hr' : ∀ r, row = some r → ∃ o : Obj, W.heap[r]? = some o ∧ o.isCells = false := fun r e => (hr r e).2
    refine ⟨v, hv.kept hg (fun e => ?_), ho.kept hg ?_⟩
    · obtain ⟨o, h1, h2⟩ := hr' _ e.symm
      rw [show W.heap[w.heap.size]? = _ from hv] at h1; cases h1; cases h2
    · cases hs : v.ownBlock with
      | none => exact .inl rfl
      | some g =>
        refine .inr fun e => ?_
        obtain ⟨o, h1, h2⟩ := hr' g e.symm
        rcases ho.2 with ⟨rfl, _⟩ | ⟨g', cap, cur, rfl, _, hgg, _⟩
        · simp [Value.ownBlock] at hs
        · simp [Value.ownBlock] at hs
          subst hs
          rw [hgg] at h1; cases h1; cases h2
  · intro k W W' row h hg hr
    refine ⟨h.1, h.2.kept hg (fun e => ?_)⟩
    obtain ⟨o, h1, h2⟩ := (hr _ e.symm).2
    rw [show W.heap[w.heap.size + 1]? = _ from h.2] at h1; cases h1; cases h2

set_option maxHeartbeats 2000000 in
set_option maxRecDepth 100000 in
theorem jlist_any (w : World) (q : Option Addr) (n : Nat) (f : Nat → Jb) (h : Holds_J w (.pointer q) (fL f n)) :
    Calls Tryd.prog 49 #[.pointer q] w (JListPost w n f) := by
  obtain ⟨i0, hi, hz0, hz1, hz2⟩ := info_parts Tryd.infJb
  have H := Lib.hid h
  have hl4 : n ≤ 4096 := by have := h.len; simpa using this
  clear h
  refine (callsIn_wide (n := 6)).1 ?_
  refine callsIn_of_wp_marks Tryd.func49 rfl trivial ?_ rfl
  simp only [Tryd.ntmps49, List.size_toArray, List.length_cons, List.length_nil, Nat.reduceAdd, Nat.reduceSub, Array.replicate_succ, Array.replicate_zero, List.push_toArray, List.append_toArray, List.nil_append, List.cons_append]
  refine wpIn_wide.2 ?_
  go_wp2_with fail
  refine (all_J _ q).mono ?_
  rintro e w1 ⟨rfl, rfl⟩
  go_wp2_with fail
  have hB0 : Below w.heap.size w ((w.alloc (.cells #[.slice none 0 0] 22)).alloc (.cells #[.pointer q] 70)) := ((Below.refl _ w).alloc (Nat.le_refl _) _).alloc (by simp) _
  have c1 := Boxed.new (w.alloc (.cells #[.slice none 0 0] 22)) 70 (.pointer q)
  rw [World.size_alloc] at c1
  have c0 := (Boxed.new w 22 (.slice none 0 0)).alloc (.cells #[.pointer q] 70)
  refine wpIn_wide.1 (range_lawG (n := 6) rfl (by omega) (gf := 66) (lb := #[.pointer (some ⟨w.heap.size + 1, 0, none⟩)]) rfl trivial (enters_of Tryd.func66 (by kernel_rfl) rfl)
    (fun _ _ => rfl) (all_iter_J 5 (by omega) (w.heap.size + 1)) (fun k x V h V' row hg hr => ?nx) (fun k V h V' row hg hr => ?en) (JListI w q n f) (fun _ _ => False)
    (jlistI_own w q n f _ (by simp; omega)) (fun _ _ _ _ h _ _ => h) ?rd ⟨⟨_, c0, World.ownsRow_nil _ _ _ _⟩, ⟨Nat.zero_le _, c1⟩, hB0⟩
    ?a1 (fun k x W => W.alloc (.cells #[.int .i64 x.l, .int .i64 x.c, .int .i64 x.a, .int .i64 x.d] 42)) (fun k x W => (Below.refl _ W).alloc (Nat.le_refl _) _) ?assign ?body ?done ?stop)
  case nx =>
    obtain ⟨L', h1, h2⟩ := h
    exact ⟨L', h1.turn hg (fun r e => (hr r e).2), h2⟩
  case en =>
    obtain ⟨L', h1, h2⟩ := h
    exact ⟨L', h1.turn hg (fun r e => (hr r e).2), h2⟩
  case rd => exact fun k V h => ⟨fL f n, _, h.2.1.2.cell, H.out.below h.2.2⟩
  case assign =>
    intro l k x W K hK
    unfold encs_J
    gi_wp2
    exact hK
  case body =>
    rintro l k x V W hat ⟨⟨v, hv, ho⟩, ⟨hk, hc⟩, hB⟩ ⟨L', hL', hx⟩
    obtain rfl := hL'.uniq ⟨_, hc.cell, H.out.below hB⟩
    obtain ⟨hkl, hxe⟩ := fL_at hx
    have hbk := (hat V.heap.size (Nat.le_refl _)).trans (heap_alloc_new V (.cells #[.int .i64 x.l, .int .i64 x.c, .int .i64 x.a, .int .i64 x.d] 42))
    have q0 : W.cell? ⟨V.heap.size, 0, none⟩ = some (.int .i64 x.l) := (cell_of_row _ _ _ _ _ _ hbk).trans rfl
    have q1 : W.cell? ⟨V.heap.size, 1, none⟩ = some (.int .i64 x.c) := (cell_of_row _ _ _ _ _ _ hbk).trans rfl
    have q2 : W.cell? ⟨V.heap.size, 2, none⟩ = some (.int .i64 x.a) := (cell_of_row _ _ _ _ _ _ hbk).trans rfl
    have q3 : W.cell? ⟨V.heap.size, 3, none⟩ = some (.int .i64 x.d) := (cell_of_row _ _ _ _ _ _ hbk).trans rfl
    have hvl := lt_of_block hbk
    have hvc := hv.cell
    have hvf := hv.frozen
    have hle := hv.lt
    have HT := Lib.hid (show jbL f (k + 1) = jbL f k ++ [.int .i64 x.l, .int .i64 x.c, .int .i64 x.a, .int .i64 x.d] from by rw [hxe]; exact jbL_succ f k)
    have HC := Lib.hid hc
    have hlt := hc.lt
    have HL' := Lib.hid hL'
    have HO := Lib.hid ho
    have HV := Lib.hid hv
    have HB := Lib.hid hB
    clear hx hL' ho hv hB hc c1 c0 hB0 hat hbk hxe
    gi_wp2_with (gi_at_builtin; refine wpListIn_append_own _ rfl _ _ 22 rfl w.heap.size JT i0 (.agg #[.int .i64 0, .int .i64 0, .int .i64 0, .int .i64 0]) 4 32 Tryd.underlying22 hi hz0 hz1 hz2 rfl (by decide) _ _ _ rfl (HO.out.alloc _) ⟨W.heap.size, 0, none⟩ 1 1 [.int .i64 x.l, .int .i64 x.c, .int .i64 x.a, .int .i64 x.d] rfl rfl (World.news_of_block (heap_alloc_new _ _)) (by simp [Value.oneCell']) (by unfold maxLen; omega) (by omega) (by have := HB.out.size; simp; omega) ?_; intro v' w1 hown' hgrow _; obtain ⟨g', cap', rfl⟩ := ownsRow_succ hown'; obtain ⟨hv1, hv2, hr2, hk2, hb2⟩ := HV.out.appended (by decide) HO.out HB.out.size (Nat.le_refl _) hown' hgrow; have hc1 := hv1.cell; have hf1 := hv1.frozen)
    have hca := HC.out.alloc (.cells #[.int .i64 x.l, .int .i64 x.c, .int .i64 x.a, .int .i64 x.d] 42)
    have hbx := (hca.kept hgrow (Boxed.not_row hca (by decide) (HO.out.alloc (.cells #[.int .i64 x.l, .int .i64 x.c, .int .i64 x.a, .int .i64 x.d] 42)))).other (B' := w.heap.size) (by omega) (.slice (some ⟨g', 0, none⟩) (k + 1) cap')
    exact ⟨hk2.from _, ⟨_, hv2, by rw [HT.out]; exact hr2⟩, ⟨by omega, hbx⟩, HB.out.trans hb2⟩
  case done =>
    rintro D k W hD ⟨L', hL', hlen⟩ ⟨⟨v, hv, ho⟩, ⟨hk, hc⟩, hB⟩ hK
    obtain rfl := hL'.uniq ⟨_, hc.cell, H.out.below hB⟩
    obtain rfl : k = n := by simp at hlen; omega
    have hvc := hv.cell
    have HO := Lib.hid ho
    have HB := Lib.hid hB
    have HL' := Lib.hid hL'
    clear hL' ho hv hB c1 c0 hB0
    go_wp2_with fail
    refine ⟨by simp, .inl ⟨_, _, rfl, run_takeDeferred hK, ?_⟩⟩
    obtain ⟨p', cap', hvs, _⟩ := own_small HO.out
    exact ⟨_, results_tmp rfl _ _ _, p', cap', by rw [hvs]; rfl, hvs ▸ ownsRow_putObj HO.out _ hK rfl, HB.out.trans (belowK_b (w := w) (Nat.le_refl _) W D _ _ (by simp at hD; omega) hK rfl rfl)⟩
  case stop =>
    rintro D c W _ h _
    exact h.elim
end Go.Proofs.YtpfhebfkhailfaaDoor
