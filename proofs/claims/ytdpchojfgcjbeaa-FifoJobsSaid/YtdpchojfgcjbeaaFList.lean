/- The program's List of a queue of numbers: all elements in a row of the call's own; no condition. -/
import Derived.Test.YtdpchojfgcjbeaaFAll
import Derived.Maps.AppendAt
import Derived.Shelf.Abstract
namespace Go.Proofs.Ytdpchojfgcjbeaa
open Go.RowKit Go.Shelf
attribute [local go_sem] Oper.semAt_some

theorem Try.infInt : (Try.prog.info? 3).map (fun i => (i.zero, i.size, i.bytes)) = some (some (.int .i64 0), 1, 8) := by kernel_rfl
theorem ints_take_succ {L : List Int} {k : Nat} {x : Int} (h : L[k]? = some x) : ints (L.take (k + 1)) = ints (L.take k) ++ [.int .i64 x] := by
  rw [List.take_add_one, h]; simp [ints]
def ListPost (w : World) (L : List Int) (e : Ending) (w' : World) : Prop := ∃ v, e = .returned v ∧ w'.ownsRow w.heap.size 3 1 v L.length (ints L) ∧ Below w.heap.size w w'
def ListI (w : World) (q : Option Addr) (L : List Int) (k : Nat) (W : World) : Prop :=
  (∃ v, Boxed W w.heap.size 28 v ∧ W.ownsRow w.heap.size 3 1 v k (ints (L.take k))) ∧ (k ≤ L.length ∧ Boxed W (w.heap.size + 1) 23 (.pointer q)) ∧ Below w.heap.size w W
theorem listI_own (w : World) (q : Option Addr) (L : List Int) (B : Nat) (hB : w.heap.size ≤ B) : OwnFrom B (ListI w q L) := by
  refine OwnFrom.and ?_ (OwnFrom.and ?_ (ownFrom_below (Nat.le_refl _) hB))
  · intro k W W' row ⟨v, hv, ho⟩ hg hr
    have hr' : ∀ r, row = some r → ∃ o : Obj, W.heap[r]? = some o ∧ o.isCells = false := fun r e => (hr r e).2
    refine ⟨v, hv.kept hg (fun e => ?_), ho.kept hg ?_⟩
    · obtain ⟨o, h1, h2⟩ := hr' _ e.symm
      rw [show W.heap[w.heap.size]? = _ from hv] at h1; cases h1; cases h2
    · cases hs : v.ownBlock with
      | none => exact .inl rfl
      | some g =>
        refine .inr fun e => ?_
        obtain ⟨o, h1, h2⟩ := hr' g e.symm
        rcases ho.2 with ⟨rfl, _⟩ | ⟨g', cap, cur, rfl, _, hgg, _⟩
        · simp [Value.ownBlock] at hs
        · simp [Value.ownBlock] at hs
          subst hs
          rw [hgg] at h1; cases h1; cases h2
  · intro k W W' row h hg hr
    refine ⟨h.1, h.2.kept hg (fun e => ?_)⟩
    obtain ⟨o, h1, h2⟩ := (hr _ e.symm).2
    rw [show W.heap[w.heap.size + 1]? = _ from h.2] at h1; cases h1; cases h2

set_option maxHeartbeats 2000000 in
set_option maxRecDepth 100000 in
theorem list_any (w : World) (q : Option Addr) (L : List Int) (h : Holds_I w (.pointer q) L) :
    Calls Try.prog 23 #[.pointer q] w (ListPost w L) := by
  obtain ⟨i0, hi, hz0, hz1, hz2⟩ := info_parts Try.infInt
  have H := Lib.hid h
  have hl4 := h.len
  clear h
  refine (callsIn_wide (n := 6)).1 ?_
  refine callsIn_of_wp_marks Try.func23 rfl trivial ?_ rfl
  simp only [Try.ntmps23, List.size_toArray, List.length_cons, List.length_nil, Nat.reduceAdd, Nat.reduceSub, Array.replicate_succ, Array.replicate_zero, List.push_toArray, List.append_toArray, List.nil_append, List.cons_append]
  refine wpIn_wide.2 ?_
  go_wp2_with fail
  refine (all_I _ q).mono ?_
  rintro e w1 ⟨rfl, rfl⟩
  go_wp2_with fail
  have hB0 : Below w.heap.size w ((w.alloc (.cells #[.slice none 0 0] 28)).alloc (.cells #[.pointer q] 23)) := ((Below.refl _ w).alloc (Nat.le_refl _) _).alloc (by simp) _
  have c1 := Boxed.new (w.alloc (.cells #[.slice none 0 0] 28)) 23 (.pointer q)
  rw [World.size_alloc] at c1
  have c0 := (Boxed.new w 28 (.slice none 0 0)).alloc (.cells #[.pointer q] 23)
  refine wpIn_wide.1 (range_law (n := 6) rfl (by omega) (gf := 51) (lb := #[.pointer (some ⟨w.heap.size + 1, 0, none⟩)]) rfl trivial (enters_of Try.func51 (by kernel_rfl) rfl)
    (fun _ _ => rfl) (all_iter_I 5 (by omega) (w.heap.size + 1)) (fun k x V h V' row hg hr => ?nx) (fun k V h V' row hg hr => ?en) (ListI w q L) (fun _ _ => False)
    (listI_own w q L _ (by simp; omega)) (fun _ _ _ _ h _ _ => h) ?rd ⟨⟨_, c0, World.ownsRow_nil _ _ _ _⟩, ⟨Nat.zero_le _, c1⟩, hB0⟩
    (fun k x => { tmps := #[.pointer q, undef, .slice none 0 0, .pointer (some ⟨w.heap.size, 0, none⟩), undef, .int .i64 x, .pointer q, .func (.func 51) #[] #[.pointer (some ⟨w.heap.size + 1, 0, none⟩)], .int .i64 k, .int .i64 x, undef, undef, undef, undef, undef], defers := [] }) ?assign ?body ?done ?stop)
  case nx =>
    obtain ⟨L', h1, h2⟩ := h
    exact ⟨L', h1.turn hg (fun r e => (hr r e).2), h2⟩
  case en =>
    obtain ⟨L', h1, h2⟩ := h
    exact ⟨L', h1.turn hg (fun r e => (hr r e).2), h2⟩
  case rd => exact fun k V h => ⟨L, _, h.2.1.2.cell, H.out.below h.2.2⟩
  case assign =>
    intro l k x W K hK
    unfold encs_I
    gi_wp2
    exact hK
  case body =>
    rintro l k x W ⟨⟨v, hv, ho⟩, ⟨hk, hc⟩, hB⟩ ⟨L', hL', hx⟩
    obtain rfl := hL'.uniq ⟨_, hc.cell, H.out.below hB⟩
    have hkl := (List.getElem?_eq_some_iff.1 hx).1
    have hvc := hv.cell
    have hvf := hv.frozen
    have hle := hv.lt
    have HT := Lib.hid (ints_take_succ hx)
    have HX := Lib.hid hx
    have HC := Lib.hid hc
    have hlt := hc.lt
    have HL' := Lib.hid hL'
    have HO := Lib.hid ho
    have HV := Lib.hid hv
    have HB := Lib.hid hB
    clear hx hL' ho hv hB hc c1 c0 hB0
    gi_wp2_with (gi_at_builtin; refine wpListIn_append_own _ rfl _ _ 28 rfl w.heap.size 3 i0 (.int .i64 0) 1 8 Try.underlying28 hi hz0 hz1 hz2 rfl (by decide) _ _ _ rfl (HO.out.alloc _) ⟨W.heap.size, 0, none⟩ 1 1 [.int .i64 x] rfl rfl (cell_one_new _ _ _) (by simp [Value.oneCell']) (by unfold maxLen; omega) (by omega) (by have := HB.out.size; simp; omega) ?_; intro v' w1 hown' hgrow _; obtain ⟨g', cap', rfl⟩ := ownsRow_succ hown'; obtain ⟨hv1, hv2, hr2, hk2, hb2⟩ := HV.out.appended (by decide) HO.out HB.out.size (Nat.le_refl _) hown' hgrow; have hc1 := hv1.cell; have hf1 := hv1.frozen)
    have hca := HC.out.alloc (.cells #[.int .i64 x] 3)
    have hbx := (hca.kept hgrow (Boxed.not_row hca (by decide) (HO.out.alloc (.cells #[.int .i64 x] 3)))).other (B' := w.heap.size) (by omega) (.slice (some ⟨g', 0, none⟩) (k + 1) cap')
    exact ⟨hk2.from _, ⟨_, hv2, by rw [HT.out]; exact hr2⟩, ⟨by omega, hbx⟩, HB.out.trans hb2⟩
  case done =>
    rintro D k W hD ⟨L', hL', hlen⟩ ⟨⟨v, hv, ho⟩, ⟨hk, hc⟩, hB⟩ hK
    obtain rfl := hL'.uniq ⟨_, hc.cell, H.out.below hB⟩
    obtain rfl : k = L'.length := by omega
    rw [List.take_length] at ho
    have hvc := hv.cell
    have HO := Lib.hid ho
    have HB := Lib.hid hB
    have HL' := Lib.hid hL'
    clear hL' ho hv hB c1 c0 hB0
    go_wp2_with fail
    refine ⟨by simp, .inl ⟨_, _, rfl, run_takeDeferred hK, ?_⟩⟩
    exact ⟨_, results_tmp rfl _ _ _, v, rfl, ownsRow_putObj HO.out _ hK rfl, HB.out.trans (belowK_b (w := w) (Nat.le_refl _) W D _ _ (by simp at hD; omega) hK rfl rfl)⟩
  case stop =>
    rintro D c W _ h _
    exact h.elim
end Go.Proofs.Ytdpchojfgcjbeaa
