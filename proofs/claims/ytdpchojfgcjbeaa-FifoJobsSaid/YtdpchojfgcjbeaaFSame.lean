/- The program's Same of two of a queue: true of two alike, false where limits or lengths part; no condition but those that each row names. -/
import Derived.Test.YtdpchojfgcjbeaaFAll
import Derived.Test.YtdpchojfgcjbeaaFEq
import Derived.Deep.QuietTactic
import Derived.BigQuiet
import Derived.Shelf.Abstract
namespace Go.Proofs.Ytdpchojfgcjbeaa
open Go.RowKit Go.Shelf
attribute [local go_sem] Oper.semAt_some

/-- A pointer's queue: its limit and what it holds. -/
def Qat_I (W : World) (q : Option Addr) (lim : Int) (L : List Int) : Prop :=
  (q = none ∧ lim = 0 ∧ L = []) ∨ ∃ B b s A, q = some ⟨b, 0, none⟩ ∧ PQ QT_I ET_I 1 B W A b s ∧ A.Good 1 ∧ A.limit = lim ∧ A.l.map (·.1) = L.map (fun x => (.int .i64 x))
theorem Qat_I.holds {W : World} {q : Option Addr} {lim : Int} {L : List Int} (h : Qat_I W q lim L) : Holds_I W (.pointer q) L := by
  rcases h with ⟨rfl, _, rfl⟩ | ⟨B, b, s, A, rfl, h, hA, _, e⟩
  · exact .inl ⟨rfl, rfl⟩
  · exact .inr ⟨B, b, s, A, rfl, h, hA, e⟩
theorem Qat_I.below {W W' : World} {q : Option Addr} {lim : Int} {L : List Int} (h : Qat_I W q lim L) (hb : Below W.heap.size W W') : Qat_I W' q lim L := by
  rcases h with h | ⟨B, b, s, A, e, h, r⟩
  · exact .inl h
  · exact .inr ⟨B, b, s, A, e, h.below hb, r⟩
theorem limit_at_I (W : World) (q : Option Addr) (lim : Int) (L : List Int) (h : Qat_I W q lim L) :
    Calls Try.prog 22 #[.pointer q] W fun e w' => e = .returned (.int .i64 lim) ∧ w' = W := by
  rcases h with ⟨rfl, rfl, rfl⟩ | ⟨B, b, s, A, rfl, h, hA, rfl, e⟩
  · exact (limit_nil_I W).mono fun e w' h => ⟨h.1, h.2.symm⟩
  · exact (limit_I 1 B A W b s h).mono fun e w' h => ⟨h.1, h.2.symm⟩
theorem len_at_I (W : World) (q : Option Addr) (lim : Int) (L : List Int) (h : Qat_I W q lim L) :
    Calls Try.prog 20 #[.pointer q] W fun e w' => e = .returned (.int .i64 L.length) ∧ w' = W := by
  rcases h with ⟨rfl, rfl, rfl⟩ | ⟨B, b, s, A, rfl, h, hA, rfl, e⟩
  · exact (len_nil_I W).mono fun e w' h => ⟨h.1, h.2.symm⟩
  · have hl := congrArg List.length e
    simp at hl
    rw [← hl]
    exact (len_I 1 B A W b s h).mono fun e w' h => ⟨h.1, h.2.symm⟩

set_option maxHeartbeats 1000000 in
set_option maxRecDepth 100000 in
theorem same_lim_I (w : World) (p q : Option Addr) (l1 l2 : Int) (L1 L2 : List Int) (h1 : Qat_I w p l1 L1) (h2 : Qat_I w q l2 L2) (hne : l1 ≠ l2) :
    Calls Try.prog 28 #[.pointer p, .pointer q] w fun e w' => e = .returned (.bool false) ∧ Below w.heap.size w w' := by
  have H1 := Lib.hid h1
  have H2 := Lib.hid h2
  have t1 : (l1 != l2) = true := by simpa using hne
  clear h1 h2 hne
  refine (callsIn_wide (n := 6)).1 ?_
  refine callsIn_of_wp_marks Try.func28 rfl trivial ?_ rfl
  simp only [Try.ntmps28, List.size_toArray, List.length_cons, List.length_nil, Nat.reduceAdd, Nat.reduceSub, Array.replicate_succ, Array.replicate_zero, List.push_toArray, List.append_toArray, List.nil_append, List.cons_append]
  refine wpIn_wide.2 ?_
  go_wp2_with fail
  have hB : Below w.heap.size w ((w.alloc (.cells #[.pointer q] 23)).alloc (.cells #[.bool false] 4)) := ((Below.refl _ w).alloc (Nat.le_refl _) _).alloc (by simp) _
  have HB := Lib.hid hB
  have Q1 := Lib.hid (fun n => H1.out.below (below_drewN hB n))
  have Q2 := Lib.hid (fun n => H2.out.below (below_drewN hB n))
  clear hB
  go_quiet ((go_at_call 22; exact Calls.quiet_of_same (limit_at_I _ _ _ _ (by first | (with_reducible exact Q1.out _) | (with_reducible exact Q2.out _)))))
  go_wp2_with fail
  refine ⟨.bool false, ?_, rfl, ?_⟩
  · simp [results, Try.results28, go_sem]
  · exact (below_drewN (((Below.refl w.heap.size w).alloc (Nat.le_refl _) _).alloc (by simp) _) _).setCell (p := ⟨w.heap.size + 1, 0, none⟩) (by simp) _

def SameI_I (w : World) (p q : Option Addr) (_ : Nat) (W : World) : Prop :=
  Boxed W w.heap.size 23 (.pointer q) ∧ Boxed W (w.heap.size + 1) 4 (.bool false) ∧ Boxed W (w.heap.size + 2) 23 (.pointer p) ∧ Below w.heap.size w W
theorem sameI_own_I (w : World) (p q : Option Addr) (B : Nat) (hB : w.heap.size ≤ B) : OwnFrom B (SameI_I w p q) :=
  OwnFrom.and ((boxed_own _ _ (fun _ => .pointer q)).from _) (OwnFrom.and ((boxed_own _ _ (fun _ => .bool false)).from _) (OwnFrom.and ((boxed_own _ _ (fun _ => .pointer p)).from _) (ownFrom_below (Nat.le_refl _) hB)))

set_option maxHeartbeats 2000000 in
set_option maxRecDepth 100000 in
theorem same_len_I (w : World) (p q : Option Addr) (lim : Int) (L1 L2 : List Int) (h1 : Qat_I w p lim L1) (h2 : Qat_I w q lim L2) (h : L1.length = L2.length → L1 = L2) :
    Calls Try.prog 28 #[.pointer p, .pointer q] w fun e w' => e = .returned (.bool (decide (L1.length = L2.length))) ∧ Below w.heap.size w w' := by
  have H1 := Lib.hid h1
  have H2 := Lib.hid h2
  have HL := Lib.hid h
  obtain ⟨r, hr⟩ : ∃ r, decide (L1.length = L2.length) = r := ⟨_, rfl⟩
  rw [hr]
  have HR := Lib.hid hr
  clear hr
  have b1 := h1.holds.len
  have b2 := h2.holds.len
  clear h1 h2 h
  refine (callsIn_wide (n := 6)).1 ?_
  refine callsIn_of_wp_marks Try.func28 rfl trivial ?_ rfl
  simp only [Try.ntmps28, List.size_toArray, List.length_cons, List.length_nil, Nat.reduceAdd, Nat.reduceSub, Array.replicate_succ, Array.replicate_zero, List.push_toArray, List.append_toArray, List.nil_append, List.cons_append]
  refine wpIn_wide.2 ?_
  go_wp2_with fail
  have hB : Below w.heap.size w ((w.alloc (.cells #[.pointer q] 23)).alloc (.cells #[.bool false] 4)) := ((Below.refl _ w).alloc (Nat.le_refl _) _).alloc (by simp) _
  have Q1 := Lib.hid (fun n => H1.out.below (below_drewN hB n))
  have Q2 := Lib.hid (fun n => H2.out.below (below_drewN hB n))
  have HB := Lib.hid hB
  clear hB
  go_quiet (first
    | (go_at_call 22; exact Calls.quiet_of_same (limit_at_I _ _ _ _ (by first | (with_reducible exact Q1.out _) | (with_reducible exact Q2.out _))))
    | (go_at_call 20; exact Calls.quiet_of_same (len_at_I _ _ _ _ (by first | (with_reducible exact Q1.out _) | (with_reducible exact Q2.out _)))))
  by_cases hlen : L1.length = L2.length
  · have er : r = true := by rw [← HR.out]; exact decide_eq_true hlen
    have HRR := Lib.hid er
    clear er HR
    have e := HL.out hlen
    subst e
    clear HL hlen
    go_wp2_with fail
    refine (all_I _ p).mono ?_
    rintro e w1 ⟨rfl, rfl⟩
    go_wp2_with fail
    have hI0 : SameI_I w p q 0 ((((w.alloc (.cells #[.pointer q] 23)).alloc (.cells #[.bool false] 4)).drewN nq).alloc (.cells #[.pointer p] 23)) := by
      have n1 : Boxed (w.alloc (.cells #[.pointer q] 23)) w.heap.size 23 (.pointer q) := Boxed.new _ _ _
      have n2 : Boxed ((w.alloc (.cells #[.pointer q] 23)).alloc (.cells #[.bool false] 4)) (w.heap.size + 1) 4 (.bool false) := by
        have := Boxed.new (w.alloc (.cells #[.pointer q] 23)) 4 (.bool false)
        rwa [World.size_alloc] at this
      have n3 := Boxed.new (((w.alloc (.cells #[.pointer q] 23)).alloc (.cells #[.bool false] 4)).drewN nq) 23 (.pointer p)
      exact ⟨(show Boxed (((w.alloc _).alloc _).drewN nq) _ _ _ from n1.alloc _).alloc _, (show Boxed (((w.alloc _).alloc _).drewN nq) _ _ _ from n2).alloc _, by simpa [World.drewN] using n3, (below_drewN HB.out nq).alloc (by simp [World.drewN]; omega) _⟩
    have HI0 := Lib.hid hI0
    clear hI0
    refine wpIn_wide.1 (range_law (n := 6) rfl (by omega) (gf := 51) (lb := #[.pointer (some ⟨w.heap.size + 2, 0, none⟩)]) rfl trivial (enters_of Try.func51 (by kernel_rfl) rfl)
      (fun _ _ => rfl) (all_iter_I 5 (by omega) (w.heap.size + 2)) (fun k x V h V' row hg hr => ?nx) (fun k V h V' row hg hr => ?en) (SameI_I w p q) (fun _ _ => False)
      (sameI_own_I w p q _ (by simp [World.drewN]; omega)) (fun _ _ _ _ h _ _ => h) ?rd HI0.out ?a1 ?assign ?body ?done ?stop)
    case nx =>
      obtain ⟨L', h1, h2⟩ := h
      exact ⟨L', h1.turn hg (fun r e => (hr r e).2), h2⟩
    case en =>
      obtain ⟨L', h1, h2⟩ := h
      exact ⟨L', h1.turn hg (fun r e => (hr r e).2), h2⟩
    case rd => exact fun k V h => ⟨L1, _, h.2.2.1.cell, (H1.out.below h.2.2.2).holds⟩
    case assign =>
      intro l k x W K hK
      unfold encs_I
      gi_wp2
      exact hK
    case stop =>
      rintro D c W _ h _
      exact h.elim
    case body =>
      rintro l k x W hI ⟨L', hL', hx⟩
      obtain rfl := hL'.uniq ⟨_, hI.2.2.1.cell, (H1.out.below hI.2.2.2).holds⟩
      have ha := Lib.hid (at_holds_yes_I W (.pointer q) L' ((H2.out.below hI.2.2.2).holds) k x hx)
      have he := Lib.hid (equal_I x x W)
      have hc := hI.1.cell
      have hxx : (x == x) = true := by simp
      have HI := Lib.hid hI
      clear hI hL' hx
      gi_wp2_with fail
      refine ⟨trivial, ?_⟩
      refine (CallsIn.inRound l (callsIn_wide.2 ha.out)).mono ?_
      rintro e w' ⟨rfl, rfl⟩
      gi_wp2_with fail
      refine ⟨trivial, ?_⟩
      refine (CallsIn.inRound l (callsIn_wide.2 he.out)).mono ?_
      rintro e w' ⟨rfl, rfl⟩
      gi_wp2_with fail
      exact ⟨KeepsFrom.refl _ _, HI.out⟩
    case done =>
      rintro D k W hD _ hI hK
      have hr := hI.2.1
      have hc := hr.cell
      have hf := hr.frozen
      have hlt := hr.lt
      have HI := Lib.hid hI
      clear hI
      go_wp2_with fail
      have hK' := (KeepsOthers.setCell W ⟨w.heap.size + 1, 0, none⟩ (.bool true)).same D _ hK rfl
      refine ⟨by simp, .inl ⟨_, _, rfl, run_takeDeferred hK', ?_⟩⟩
      have hc5 := cell_kept (hr.set (.bool true)).cell (grownBy_putObj' _ D (.deferred none)) (fun r e => by cases e; exact ⟨_, hK', rfl⟩)
      refine ⟨.bool true, ?_, by rw [HRR.out], ((HI.out.2.2.2).setCell (p := ⟨w.heap.size + 1, 0, none⟩) (by simp) _).trans (belowK_b (w := w) (Nat.le_refl _) _ D _ _ (by simp [World.drewN] at hD; omega) hK' rfl rfl)⟩
      simp [results, Try.results28, go_sem, hc5]
  · have er : r = false := by rw [← HR.out]; exact decide_eq_false hlen
    have HRR := Lib.hid er
    clear er HR
    have t1 : ((L1.length : Int) != (L2.length : Int)) = true := by simp; omega
    clear hlen
    go_wp2_with fail
    refine ⟨.bool false, ?_, by rw [HRR.out], ?_⟩
    · simp [results, Try.results28, go_sem]
    · exact (below_drewN (((Below.refl w.heap.size w).alloc (Nat.le_refl _) _).alloc (by simp) _) _).setCell (p := ⟨w.heap.size + 1, 0, none⟩) (by simp) _
end Go.Proofs.Ytdpchojfgcjbeaa
