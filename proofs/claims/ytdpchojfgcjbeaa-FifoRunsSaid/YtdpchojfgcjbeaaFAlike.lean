/- The law's own alike: the program's queue shows what the document's has; no condition but those that the row names. -/
import Derived.Test.YtdpchojfgcjbeaaFRef
import Derived.Test.YtdpchojfgcjbeaaFTwinsA
import Derived.Deep.RegionHeld3
import Derived.Deep.CutRange
namespace Go.Proofs.Ytdpchojfgcjbeaa
open Go.RowKit Go.Shelf
attribute [local go_sem] Oper.semAt_some

/-- What alike has made at its start. -/
def AW (w : World) (lim : Int) (v : Value) (m : Int) : World := ((w.alloc (.cells #[.int .i64 lim, v] 30)).alloc (.cells #[.bool false] 4)).alloc (.cells #[.int .i64 m] 3)
structure AB (w : World) (lim : Int) (v : Value) (m : Int) (W : World) : Prop where
  bel : Below w.heap.size w W
  e0 : W.heap[w.heap.size]? = some (.cells #[.int .i64 lim, v] 30 (0, 0))
  b1 : Boxed W (w.heap.size + 1) 4 (.bool false)
  b2 : Boxed W (w.heap.size + 2) 3 (.int .i64 m)
theorem AB.below {w W W' : World} {lim m : Int} {v : Value} (h : AB w lim v m W) (hb : Below W.heap.size W W') : AB w lim v m W' :=
  ⟨bnext h.bel hb, (hb.block _ (lt_of_block h.e0)).trans h.e0, box_below h.b1 hb, box_below h.b2 hb⟩
theorem AB.drew {w W : World} {lim m : Int} {v : Value} (h : AB w lim v m W) : AB w lim v m W.drew := h.below (below_drewN (Below.refl _ _) 1)
theorem AB.start (w : World) (lim : Int) (v : Value) (m : Int) : AB w lim v m (AW w lim v m) := by
  refine ⟨?_, ?_, ?_, ?_⟩
  · exact ((((Below.refl _ w).alloc (Nat.le_refl _) _).alloc (by simp) _).alloc (by simp; omega) _)
  · exact (Below.heap_alloc _ _ _ (by simp <;> omega)).trans ((Below.heap_alloc _ _ _ (by simp)).trans (heap_alloc_new w _))
  · have := Boxed.new (w.alloc (.cells #[.int .i64 lim, v] 30)) 4 (.bool false)
    rw [World.size_alloc] at this
    exact this.alloc _
  · have := Boxed.new ((w.alloc (.cells #[.int .i64 lim, v] 30)).alloc (.cells #[.bool false] 4)) 3 (.int .i64 m)
    rw [World.size_alloc, World.size_alloc] at this
    exact this
theorem AB.cells {w W : World} {lim m : Int} {v : Value} (h : AB w lim v m W) : W.cell? ⟨w.heap.size, 0, none⟩ = some (.int .i64 lim) ∧ W.cell? ⟨w.heap.size, 1, none⟩ = some v ∧ W.cell? ⟨w.heap.size + 2, 0, none⟩ = some (.int .i64 m) :=
  ⟨(cell_of_row _ _ _ _ _ _ h.e0).trans rfl, (cell_of_row _ _ _ _ _ _ h.e0).trans rfl, h.b2.cell⟩

theorem AB.turn {w W W' : World} {lim m : Int} {v : Value} {row : Option Nat} (h : AB w lim v m W) (hg : W.grownBy W' row) (hr : ∀ r, row = some r → w.heap.size ≤ r ∧ ∃ o : Obj, W.heap[r]? = some o ∧ o.isCells = false) : AB w lim v m W' := by
  have hr' : ∀ r, row = some r → ∃ o : Obj, W.heap[r]? = some o ∧ o.isCells = false := fun r e => (hr r e).2
  refine ⟨h.bel.grown hg h.bel.size (fun j e => (hr j e).1), (hg.block _ (lt_of_block h.e0) (fun e => ?_)).trans h.e0, box_turn h.b1 hg hr', box_turn h.b2 hg hr'⟩
  obtain ⟨o, h1, h2⟩ := hr' _ e.symm
  rw [h.e0] at h1; cases h1; cases h2
theorem AB.set {w W : World} {lim m : Int} {v : Value} (h : AB w lim v m W) {q : Nat} (hq : w.heap.size + 3 ≤ q) (u : Value) : AB w lim v m (W.setCell ⟨q, 0, none⟩ u) := by
  refine ⟨h.bel.setCell (p := ⟨q, 0, none⟩) (by simp; omega) _, ?_, h.b1.other (by omega) _, h.b2.other (by omega) _⟩
  rw [heap_setCell_other _ _ _ _ (by simp; omega)]; exact h.e0
/-- While it is gone over. -/
def AI (w : World) (lim : Int) (v : Value) (m : Int) (b mb : Nat) (k : Nat) (W : World) : Prop :=
  AB w lim v m W ∧ Boxed W mb 3 (.int .i64 k) ∧ Boxed W (mb + 1) 23 (.pointer (some ⟨b, 0, none⟩)) ∧ (k : Int) ≤ m
theorem aI_own (w : World) (lim : Int) (v : Value) (m : Int) (b mb : Nat) (B : Nat) (hB : w.heap.size ≤ B) : OwnFrom B (AI w lim v m b mb) := by
  rintro k W W' row ⟨h, h1, h2, h3⟩ hg hr
  have hr' : ∀ r, row = some r → ∃ o : Obj, W.heap[r]? = some o ∧ o.isCells = false := fun r e => (hr r e).2
  exact ⟨h.turn hg (fun r e => ⟨Nat.le_trans hB (hr r e).1, (hr r e).2⟩), box_turn h1 hg hr', box_turn h2 hg hr', h3⟩

set_option maxHeartbeats 4000000 in
set_option maxRecDepth 100000 in
theorem alike_any (B : Nat) (w : World) (A : Qu) (hA : A.Good 1) (b : Nat) (s v : Value) (L : List Int) (hq : PQ QT_I ET_I 1 B w A b s) (hl : A.l.map (·.1) = ints L) (hn : Nums w v L) :
    Calls Try.prog 13 #[.pointer (some ⟨b, 0, none⟩), .agg #[.int .i64 A.limit, v]] w fun e w' => e = .returned (.bool true) ∧ Below w.heap.size w w' := by
  have hlen : A.l.length = L.length := by have := congrArg List.length hl; simpa [ints] using this
  have h4 : L.length ≤ 4096 := by rw [← hlen]; exact hA.n4
  have HLN := Lib.hid (fun W (h : PQ QT_I ET_I 1 B W A b s) => len_I 1 B A W b s h)
  have HRM := Lib.hid (fun W (h : PQ QT_I ET_I 1 B W A b s) => room_I 1 B A hA W b s h)
  rw [hlen] at HLN HRM
  have HQ := Lib.hid hq
  have HN := Lib.hid hn
  have HA := Lib.hid hA
  have HO := Lib.hid (show ∀ W, Below w.heap.size w W → Qat_I W (some ⟨b, 0, none⟩) A.limit L from fun W hb => .inr ⟨B, b, s, A, rfl, hq.below hb, hA, rfl, hl⟩)
  have hlm := hA.l1
  have hl0 := hA.l0
  obtain ⟨p, cap, hv, _⟩ := own_small hn
  subst hv
  have HST := Lib.hid (AB.start w A.limit (.slice p L.length cap) L.length)
  have HL := Lib.hid (show ∀ W, Below w.heap.size w W → Lst (fun _ => False) W (.slice p L.length cap) (ints L) from fun W hb => Lst.of_own (own_below hn hb) (ints_len L) (by omega) (fun _ _ _ k => k))
  have hw1 : IntKind.i64.wrap (A.limit - (L.length : Int)) = A.limit - (L.length : Int) := IntWalk.i64_in _ (by omega)
  clear hq hn hA hl hlen
  refine (callsIn_wide (n := 6)).1 ?_
  refine callsIn_of_wp_marks Try.func13 rfl trivial ?_ rfl
  simp only [Try.ntmps13, List.size_toArray, List.length_cons, List.length_nil, Nat.reduceAdd, Nat.reduceSub, Array.replicate_succ, Array.replicate_zero, List.push_toArray, List.append_toArray, List.nil_append, List.cons_append]
  refine wpIn_wide.2 ?_
  go_upto_region 2 with fail
  have c := HST.out.cells
  unfold AW at c
  obtain ⟨c0, c1, c2⟩ := c
  go_cut [43] from 16 to 43 (fun s43 wx => s43 = .bool false ∧ Hid (AB w A.limit (.slice p L.length cap) L.length wx))
  case first =>
    go_region_held3 (fun w' => w'.cell? ⟨w.heap.size, 0, none⟩ = some (.int .i64 A.limit) ∧ w'.cell? ⟨w.heap.size, 1, none⟩ = some (.slice p L.length cap) ∧ w'.cell? ⟨w.heap.size + 2, 0, none⟩ = some (.int .i64 L.length) ∧ AB w A.limit (.slice p L.length cap) L.length w')
      (first | exact ⟨c0, c1, c2, HST.out.drew⟩ | (go_split_ands; exact ⟨(AB.cells (by assumption)).1, (AB.cells (by assumption)).2.1, (AB.cells (by assumption)).2.2, by assumption⟩) | go_keep)
      (first
        | (go_at_call 20; go_split_ands; refine (HLN.out _ (HQ.out.below (AB.bel (by assumption)))).mono ?_; rintro e w3 ⟨rfl, rfl⟩)
        | (go_at_call 21; go_split_ands; refine (HRM.out _ (HQ.out.below (AB.bel (by assumption)))).mono ?_; rintro e w3 ⟨rfl, rfl⟩)
        | (go_at_call 22; go_split_ands; refine (limit_I 1 B A _ b s (HQ.out.below (AB.bel (by assumption)))).mono ?_; rintro e w3 ⟨rfl, rfl⟩)
        | (go_at_call 23; go_split_ands; refine (list_any _ _ L (HO.out _ (AB.bel (by assumption))).holds).mono ?_; rintro e w6 ⟨v6, rfl, ho6, hb6⟩; have HL6 := Lib.hid (Lst.of_own (S := fun _ => False) ho6 (by rw [ints_len]) (by omega) (fun _ _ _ k => k)); have hab6 := AB.below (by assumption) hb6; clear ho6 hb6)
        | (go_at_call 30; go_split_ands; refine (same_yes _ _ L _ _ _ HL6.out (HL.out _ (AB.bel (by assumption)))).mono ?_; rintro e w7 ⟨rfl, hb7⟩; have hab7 := AB.below (by assumption) hb7; clear hb7))
    all_goals go_wp2_with fail
    all_goals
      go_meet
      exact ⟨rfl, Lib.hid (by go_split_ands; assumption)⟩
  case rest =>
    obtain ⟨rfl, hcut⟩ := hcut
    have HAB := hcut
    clear c0 c1 c2 hcut
    obtain ⟨y, t, hh, hr⟩ : ∃ (y : Int) (t : Bool), (∀ W, Below w.heap.size w W → Calls Try.prog 15 #[.pointer (some ⟨b, 0, none⟩)] W fun e w' => e = .returned (.tuple #[.int .i64 y, .bool t]) ∧ W = w') ∧
        (∀ W, Below w.heap.size w W → Calls Try.prog 47 #[.agg #[.int .i64 A.limit, .slice p L.length cap], .int .i64 0] W fun e w' => e = .returned (.tuple #[.int .i64 y, .bool t]) ∧ Below W.heap.size W w') := by
      by_cases h0 : 0 < L.length
      · exact ⟨L[0], true, fun W hb => head_of_I W _ _ _ (at_holds_yes_I W _ L (HO.out W hb).holds 0 L[0] (by simp [h0])), fun W hb => rat_yes W A.limit _ L (own_below HN.out hb) 0 h0 L[0] rfl⟩
      · exact ⟨0, false, fun W hb => head_of_I W _ _ _ (at_holds_no_I W _ L (HO.out W hb).holds 0 (.inr (by omega))), fun W hb => rat_no W A.limit _ L (own_below HN.out hb) 0 (.inr (by omega))⟩
    have HH := Lib.hid hh
    have HR := Lib.hid hr
    clear hh hr
    have tyy : (y != y) = false := by simp
    have ttt : (t != t) = false := by simp
    obtain ⟨c0, c1, c2⟩ := HAB.out.cells
    go_wp2_with fail
    refine (HH.out _ HAB.out.bel).mono ?_
    rintro e w1 ⟨rfl, rfl⟩
    go_wp2_with fail
    refine (HR.out _ HAB.out.bel).mono ?_
    rintro e w2 ⟨rfl, hb2⟩
    have HAB2 := Lib.hid (HAB.out.below hb2)
    clear hb2 c0 c1 c2
    obtain ⟨c0, c1, c2⟩ := HAB2.out.cells
    go_wp2_with fail
    refine (all_I _ _).mono ?_
    rintro e w3 ⟨rfl, rfl⟩
    go_wp2_with fail
    obtain ⟨mb, hmb⟩ : ∃ mb, w2.heap.size = mb := ⟨_, rfl⟩
    have hI0 : AI w A.limit (.slice p L.length cap) L.length b mb 0 ((w2.alloc (.cells #[.int .i64 0] 3)).alloc (.cells #[.pointer (some ⟨b, 0, none⟩)] 23)) := by
      refine ⟨HAB2.out.below (((Below.refl _ w2).alloc (Nat.le_refl _) _).alloc (by simp) _), ?_, ?_, by omega⟩
      · rw [← hmb]; exact (Boxed.new w2 _ _).alloc _
      · rw [← hmb]
        have := Boxed.new (w2.alloc (.cells #[.int .i64 0] 3)) 23 (.pointer (some ⟨b, 0, none⟩))
        rwa [World.size_alloc] at this
    have hm3 : w.heap.size + 3 ≤ mb := by rw [← hmb]; exact HAB2.out.b2.lt
    have hwm : w.heap.size ≤ ((w2.alloc (.cells #[.int .i64 0] 3)).alloc (.cells #[.pointer (some ⟨b, 0, none⟩)] 23)).heap.size := by simp; omega
    rw [hmb]
    have HI0 := Lib.hid hI0
    clear hI0 hmb c0 c1 c2
    refine wpIn_wide.1 (range_law (n := 6) rfl (by omega) (gf := 51) (lb := #[.pointer (some ⟨mb + 1, 0, none⟩)]) rfl trivial (enters_of Try.func51 (by kernel_rfl) rfl)
      (fun _ _ => rfl) (all_iter_I 5 (by omega) (mb + 1)) (fun k x V h V' row hg hr => ?nx) (fun k V h V' row hg hr => ?en) (AI w A.limit (.slice p L.length cap) L.length b mb) (fun _ _ => False)
      (aI_own w _ _ _ b mb _ hwm) (fun _ _ _ _ h _ _ => h) ?rd HI0.out ?a1 ?assign ?body ?done ?stop)
    case nx =>
      obtain ⟨L', h1, h2⟩ := h
      exact ⟨L', h1.turn hg (fun r e => (hr r e).2), h2⟩
    case en =>
      obtain ⟨L', h1, h2⟩ := h
      exact ⟨L', h1.turn hg (fun r e => (hr r e).2), h2⟩
    case rd => exact fun k V h => ⟨L, _, h.2.2.1.cell, (HO.out _ h.1.bel).holds⟩
    case assign =>
      intro l k x W K hK
      unfold encs_I
      gi_wp2
      exact hK
    case stop =>
      rintro D c W _ h _
      exact h.elim
    case body =>
      rintro l k x W ⟨hab, hm, hbx, _⟩ ⟨L', hL', hx⟩
      obtain rfl := hL'.uniq ⟨_, hbx.cell, (HO.out _ hab.bel).holds⟩
      have hkl := (List.getElem?_eq_some_iff.1 hx).1
      obtain ⟨g, cc, hv, _, hg⟩ := HN.out.form (by omega)
      cases hv
      have hxx : L'.getD k 0 = x := by rw [List.getD_eq_getElem?_getD, hx]; rfl
      have q1 : W.cell? ⟨g, k, none⟩ = some (.int .i64 x) := (hab.bel.cell (p := ⟨g, k, none⟩) hg).trans ((HN.out.cellAt k (by omega)).trans (by rw [ints_at hkl, hxx]))
      have cm := hm.cell
      have fm := hm.frozen
      have hmlt := hm.lt
      obtain ⟨d0, d1, d2⟩ := hab.cells
      have hgw : g < W.heap.size := Nat.lt_of_lt_of_le hg hab.bel.size
      have z0 : (0 : Int) ≤ (k : Int) := by omega
      have z1 : (k : Int) < (L'.length : Int) := by omega
      have z2 : (k : Int) + 1 ≤ 4097 := by omega
      have txx : (x != x) = false := by simp
      have tkk : ((k : Int) != (k : Int)) = false := by simp
      have HAB3 := Lib.hid hab
      have HM3 := Lib.hid hm
      have HB3 := Lib.hid hbx
      clear hab hm hbx hL' hx hxx
      gi_wp2_with fail
      exact ⟨(KeepsOthers.setCell _ _ _).from _, HAB3.out.set hm3 _, by simpa using HM3.out.set (.int .i64 ((k : Int) + 1)), HB3.out.other (by omega) _, by omega⟩
    case done =>
      rintro D k W hD ⟨L', hL', hle⟩ ⟨hab, hm, hbx, hkm⟩ hK
      obtain rfl := hL'.uniq ⟨_, hbx.cell, (HO.out _ hab.bel).holds⟩
      obtain rfl : k = L'.length := by omega
      have cm := hm.cell
      obtain ⟨d0, d1, d2⟩ := hab.cells
      have hr := hab.b1
      have hc := hr.cell
      have hf := hr.frozen
      have hlt := hr.lt
      have tll : ((L'.length : Int) == (L'.length : Int)) = true := by simp
      have HAB3 := Lib.hid hab
      clear hL' hab hm hbx hkm
      go_wp2_with fail
      have hK' := (KeepsOthers.setCell W ⟨w.heap.size + 1, 0, none⟩ (.bool true)).same D _ hK rfl
      refine ⟨by simp, .inl ⟨_, _, rfl, run_takeDeferred hK', ?_⟩⟩
      have hc5 := cell_kept (hr.set (.bool true)).cell (grownBy_putObj' _ D (.deferred none)) (fun r e => by cases e; exact ⟨_, hK', rfl⟩)
      refine ⟨.bool true, ?_, rfl, ((HAB3.out.bel).setCell (p := ⟨w.heap.size + 1, 0, none⟩) (by simp) _).trans (belowK_b (w := w) (Nat.le_refl _) _ D _ _ (by omega) hK' rfl rfl)⟩
      simp [results, Try.results13, go_sem, hc5]
end Go.Proofs.Ytdpchojfgcjbeaa
