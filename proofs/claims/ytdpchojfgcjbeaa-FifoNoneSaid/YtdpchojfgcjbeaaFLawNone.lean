/- The law FifoNone: a nil Queue, and one that New has not made, are as queues without room; true at every place and number; no condition. -/
import Derived.Test.YtdpchojfgcjbeaaFNoneA
namespace Go.Proofs.Ytdpchojfgcjbeaa
open Go.RowKit Go.Shelf
attribute [local go_sem] Oper.semAt_some

structure NS (w W : World) : Prop where
  bel : Below w.heap.size w W
  br : Boxed W w.heap.size 4 (.bool false)
  q : PQ QT_I ET_I 1 w.heap.size W qu0 (w.heap.size + 1) (.slice none 0 0)
  ls : W.heap[w.heap.size + 2]? = some (.cells #[.pointer none, .pointer (some ⟨w.heap.size + 1, 0, none⟩)] 23 (0, 0))
theorem NS.below {w W W' : World} (h : NS w W) (hb : Below W.heap.size W W') : NS w W' := ⟨bnext h.bel hb, box_below h.br hb, h.q.below hb, (hb.block _ (lt_of_block h.ls)).trans h.ls⟩
theorem NS.kept {w W W' : World} {q : Option Addr} (h : NS w W) (hq : q = none ∨ q = some ⟨w.heap.size + 1, 0, none⟩) (hk : Keeps (fun x => q = some ⟨x, 0, none⟩) W W') (hp : ∀ B b, q = some ⟨b, 0, none⟩ → PQ QT_I ET_I 1 B W qu0 b (.slice none 0 0) → PQ QT_I ET_I 1 B W' qu0 b (.slice none 0 0)) : NS w W' := by
  rcases hq with rfl | rfl
  · exact h.below ⟨hk.os, hk.tape, hk.output, hk.size, fun b hb => hk.block b hb (fun e => by cases e)⟩
  · refine ⟨h.bel.trans ((hk.mono (T := fun x => x = w.heap.size + 1) (fun x e => by cases e; rfl)).below h.bel.size (fun x e => by subst e; simp)), (hk.block _ h.br.lt (fun e => by injection e with e; injection e with e; omega)).trans h.br, hp _ _ rfl h.q, (hk.block _ (lt_of_block h.ls) (fun e => by injection e with e; injection e with e; omega)).trans h.ls⟩
theorem NS.em {w W : World} {q : Option Addr} (h : NS w W) (hq : q = none ∨ q = some ⟨w.heap.size + 1, 0, none⟩) : Em W q := by
  rcases hq with rfl | rfl
  · exact .inl rfl
  · exact .inr ⟨_, _, rfl, h.q⟩
theorem def_below {W W' : World} {D : Nat} (h : W.heap[D]? = some (.deferred (some []))) (hb : Below W.heap.size W W') : W'.heap[D]? = some (.deferred (some [])) := (hb.block _ (lt_of_block h)).trans h
theorem def_keeps {W W' : World} {D : Nat} {S : Nat → Prop} (h : W.heap[D]? = some (.deferred (some []))) (hk : Keeps S W W') (hS : ∀ x, S x → ∃ o : Obj, W.heap[x]? = some o ∧ o.isCells = true) : W'.heap[D]? = some (.deferred (some [])) := by
  refine (hk.block _ (lt_of_block h) (fun e => ?_)).trans h
  obtain ⟨o, h1, h2⟩ := hS D e
  rw [h] at h1; cases h1; cases h2
/-- While nothing is gone over. -/
def NI (w w0 : World) (bx : Nat) (q : Option Addr) (_ : Nat) (W : World) : Prop := (NS w W ∧ Boxed W bx 23 (.pointer q)) ∧ Below w0.heap.size w0 W
theorem NS.turn {w W W' : World} {row : Option Nat} (h : NS w W) (hg : W.grownBy W' row) (hr : ∀ r, row = some r → w.heap.size ≤ r ∧ ∃ o : Obj, W.heap[r]? = some o ∧ o.isCells = false) : NS w W' := by
  have hr' : ∀ r, row = some r → ∃ o : Obj, W.heap[r]? = some o ∧ o.isCells = false := fun r e => (hr r e).2
  refine ⟨h.bel.grown hg h.bel.size (fun j e => (hr j e).1), box_turn h.br hg hr', h.q.turn hg hr', (hg.block _ (lt_of_block h.ls) (fun e => ?_)).trans h.ls⟩
  obtain ⟨o, h1, h2⟩ := hr' _ e.symm
  rw [h.ls] at h1; cases h1; cases h2
theorem nI_own (w w0 : World) (bx : Nat) (q : Option Addr) (B : Nat) (hB : w.heap.size ≤ B) (hB0 : w0.heap.size ≤ B) : OwnFrom B (NI w w0 bx q) := by
  refine OwnFrom.and ?_ (ownFrom_below (Nat.le_refl _) hB0)
  rintro k W W' row ⟨h1, h2⟩ hg hr
  exact ⟨h1.turn hg (fun r e => ⟨Nat.le_trans hB (hr r e).1, (hr r e).2⟩), box_turn h2 hg (fun r e => (hr r e).2)⟩

set_option maxHeartbeats 4000000 in
set_option maxRecDepth 100000 in
theorem none_any (i v : Int) (w : World) :
    Calls Try.prog 4 #[.int .i64 i, .int .i64 v] w fun e w' => e = .returned (.bool true) ∧ Below w.heap.size w w' := by
  refine (callsIn_wide (n := 6)).1 ?_
  refine callsIn_of_wp_marks Try.func4 rfl trivial ?_ rfl
  simp only [Try.ntmps4, List.size_toArray, List.length_cons, List.length_nil, Nat.reduceAdd, Nat.reduceSub, Array.replicate_succ, Array.replicate_zero, List.push_toArray, List.append_toArray, List.nil_append, List.cons_append]
  refine wpIn_wide.2 ?_
  have e40 := errV_ne (n := 40) (by decide)
  have e50 := errV_ne (n := 50) (by decide)
  have e1 := errV_ne (n := 1) (by decide)
  have e0 := errV_0
  go_wp2_with fail
  obtain ⟨W0, hW0⟩ : ∃ W0, W0 = ((w.alloc (.cells #[.bool false] 4)).alloc (.cells #[.int .i64 0, .slice none 0 0, .int .i64 0] QT_I)).alloc (.cells #[.pointer none, .pointer (some ⟨w.heap.size + 1, 0, none⟩)] 23) := ⟨_, rfl⟩
  have hN0 : NS w W0 := by
    rw [hW0]
    refine ⟨(((Below.refl _ w).alloc (Nat.le_refl _) _).alloc (by simp) _).alloc (by simp; omega) _, ((Boxed.new w _ _).alloc _).alloc _, ?_, ?_⟩
    · have := PQ.new (T := QT_I) (E := ET_I) (k := 1) (B := w.heap.size) (w := w.alloc (.cells #[.bool false] 4)) (by simp) 0
      rw [World.size_alloc] at this
      exact this.alloc _
    · have := World.alloc_heap_new ((w.alloc (.cells #[.bool false] 4)).alloc (.cells #[.int .i64 0, .slice none 0 0, .int .i64 0] QT_I)) (.cells #[.pointer none, .pointer (some ⟨w.heap.size + 1, 0, none⟩)] 23)
      simpa using this
  rw [← hW0]
  have HN0 := Lib.hid hN0
  clear hN0 hW0
  refine wp_loop_rounds 3 ?_
  rw [rounds_succ]
  have lc0 : W0.cell? ⟨w.heap.size + 2, 0, none⟩ = some (.pointer none) := by rw [cell_of_row _ _ _ _ _ _ HN0.out.ls]; rfl
  have HE0 := Lib.hid (HN0.out.em (q := none) (.inl rfl))
  go_wp2_with fail
  refine (em_pop _ _ HE0.out).mono ?_
  rintro e wx ⟨rfl, rfl⟩
  go_wp2_with fail
  refine (em_head _ _ HE0.out).mono ?_
  rintro e wx ⟨rfl, rfl⟩
  go_wp2_with fail
  refine (em_at _ _ HE0.out i).mono ?_
  rintro e wx ⟨rfl, rfl⟩
  go_wp2_with fail
  refine (em_drop _ _ HE0.out i).mono ?_
  rintro e wx ⟨rfl, rfl⟩
  go_wp2_with fail
  refine (em_push _ _ HE0.out v).mono ?_
  rintro e wx ⟨rfl, rfl⟩
  go_wp2_with fail
  refine (num_errno 40 _).mono ?_
  rintro e wx ⟨rfl, rfl⟩
  go_wp2_with fail
  refine (num_errno 50 _).mono ?_
  rintro e wx ⟨rfl, rfl⟩
  go_wp2_with fail
  refine (num_errno 50 _).mono ?_
  rintro e wx ⟨rfl, rfl⟩
  go_wp2_with fail
  refine (em_put _ _ HE0.out i v).mono ?_
  rintro e wx ⟨rfl, rfl⟩
  go_wp2_with fail
  refine (num_errno 50 _).mono ?_
  rintro e wx ⟨rfl, rfl⟩
  go_wp2_with fail
  refine (em_len _ _ HE0.out).mono ?_
  rintro e wx ⟨rfl, rfl⟩
  go_wp2_with fail
  refine (em_room _ _ HE0.out).mono ?_
  rintro e wx ⟨rfl, rfl⟩
  go_wp2_with fail
  refine (em_limit _ _ HE0.out).mono ?_
  rintro e wx ⟨rfl, rfl⟩
  go_wp2_with fail
  refine (em_list _ _ HE0.out).mono ?_
  rintro e X0 ⟨⟨pl0, cl0, rfl⟩, hbl0⟩
  have HX0 := Lib.hid (HN0.out.below hbl0)
  have HEX0 := Lib.hid (HE0.out.below hbl0)
  have HBL0 := Lib.hid hbl0
  clear hbl0 lc0
  go_wp2_with fail
  refine (em_clear _ _ HEX0.out).mono ?_
  rintro e wx ⟨rfl, rfl⟩
  go_wp2_with fail
  refine (all_I _ none).mono ?_
  rintro e wx ⟨rfl, rfl⟩
  go_wp2_with fail
  obtain ⟨bx0, hbx0⟩ : ∃ b, X0.heap.size = b := ⟨_, rfl⟩
  have hI0 : NI w (X0.alloc (.cells #[.pointer none] 23)) bx0 none 0 (X0.alloc (.cells #[.pointer none] 23)) :=
    ⟨⟨HX0.out.below ((Below.refl _ _).alloc (Nat.le_refl _) _), hbx0 ▸ Boxed.new X0 _ _⟩, Below.refl _ _⟩
  have HI0 := Lib.hid hI0
  have HBX0 := Lib.hid hbx0
  rw [hbx0]
  clear hI0 hbx0
  refine wpIn_wide.1 (range_law (n := 6) rfl (by omega) (gf := 51) (lb := #[.pointer (some ⟨bx0, 0, none⟩)]) rfl trivial (enters_of Try.func51 (by kernel_rfl) rfl)
    (fun _ _ => rfl) (all_iter_I 5 (by omega) bx0) (fun k x V h V' row hg hr => ?nx0) (fun k V h V' row hg hr => ?en0) (NI w (X0.alloc (.cells #[.pointer none] 23)) bx0 none) (fun _ _ => False)
    (nI_own w _ bx0 none _ (by have := HX0.out.bel.size; simp; omega) (Nat.le_refl _)) (fun _ _ _ _ h _ _ => h) ?rd0 HI0.out ?a0 ?assign0 ?body0 ?done0 ?stop0)
  case nx0 =>
    obtain ⟨L', h1, h2⟩ := h
    exact ⟨L', h1.turn hg (fun r e => (hr r e).2), h2⟩
  case en0 =>
    obtain ⟨L', h1, h2⟩ := h
    exact ⟨L', h1.turn hg (fun r e => (hr r e).2), h2⟩
  case rd0 => exact fun k V h => ⟨[], _, h.1.2.cell, (h.1.1.em (.inl rfl)).holds⟩
  case assign0 =>
    intro l' k x W K hK
    unfold encs_I
    gi_wp2
    exact hK
  case stop0 =>
    rintro D c W _ h _
    exact h.elim
  case body0 =>
    rintro l' k x W h ⟨L', hL', hx⟩
    obtain rfl := hL'.uniq ⟨_, h.1.2.cell, (h.1.1.em (.inl rfl)).holds⟩
    simp at hx
  rintro D0 k0 Y0 hD0 _ ⟨⟨hN0y, _⟩, hby0⟩ hK0
  have HY0 := Lib.hid hN0y
  have HK0 := Lib.hid hK0
  have HEY0 := Lib.hid (hN0y.em (q := none) (.inl rfl))
  have HDL0 := Lib.hid (show w.heap.size ≤ D0 by have := HX0.out.bel.size; simp at hD0; omega)
  have HBY0 := Lib.hid hby0
  have HDX0 := Lib.hid (show X0.heap.size ≤ D0 by simp at hD0; omega)
  clear hN0y hK0 hby0 hD0
  go_wp2_with fail
  refine (em_keep _ _ HEY0.out).mono ?_
  rintro e Z0 ⟨rfl, hez, hkz, hpz⟩
  have HZ0 := Lib.hid (HY0.out.kept (.inl rfl) hkz hpz)
  have HKZ0 := Lib.hid hkz
  clear hez hkz hpz
  go_wp2_with fail
  refine (same_true _ _ _ 0 [] (HZ0.out.em (q := none) (.inl rfl)).qat (HZ0.out.em (q := none) (.inl rfl)).qat).mono ?_
  rintro e Y0b ⟨rfl, hb1⟩
  have HZ0b := Lib.hid (HZ0.out.below hb1)
  have HB10 := Lib.hid hb1
  clear hb1
  go_wp2_with fail
  refine (same_true _ _ _ 0 [] (HZ0b.out.em (q := some ⟨w.heap.size + 1, 0, none⟩) (.inr rfl)).qat (HZ0b.out.em (q := none) (.inl rfl)).qat).mono ?_
  rintro e W1 ⟨rfl, hb2⟩
  have HN1 := Lib.hid (HZ0b.out.below hb2)
  have HB20 := Lib.hid hb2
  clear hb2
  go_wp2_with fail
  rw [rounds_succ]
  have lc1 : W1.cell? ⟨w.heap.size + 2, 1, none⟩ = some (.pointer (some ⟨w.heap.size + 1, 0, none⟩)) := by rw [cell_of_row _ _ _ _ _ _ HN1.out.ls]; rfl
  have HE1 := Lib.hid (HN1.out.em (q := (some ⟨w.heap.size + 1, 0, none⟩)) (.inr rfl))
  go_wp2_with fail
  refine (em_pop _ _ HE1.out).mono ?_
  rintro e wx ⟨rfl, rfl⟩
  go_wp2_with fail
  refine (em_head _ _ HE1.out).mono ?_
  rintro e wx ⟨rfl, rfl⟩
  go_wp2_with fail
  refine (em_at _ _ HE1.out i).mono ?_
  rintro e wx ⟨rfl, rfl⟩
  go_wp2_with fail
  refine (em_drop _ _ HE1.out i).mono ?_
  rintro e wx ⟨rfl, rfl⟩
  go_wp2_with fail
  refine (em_push _ _ HE1.out v).mono ?_
  rintro e wx ⟨rfl, rfl⟩
  go_wp2_with fail
  refine (num_errno 40 _).mono ?_
  rintro e wx ⟨rfl, rfl⟩
  go_wp2_with fail
  refine (num_errno 50 _).mono ?_
  rintro e wx ⟨rfl, rfl⟩
  go_wp2_with fail
  refine (num_errno 50 _).mono ?_
  rintro e wx ⟨rfl, rfl⟩
  go_wp2_with fail
  refine (em_put _ _ HE1.out i v).mono ?_
  rintro e wx ⟨rfl, rfl⟩
  go_wp2_with fail
  refine (num_errno 50 _).mono ?_
  rintro e wx ⟨rfl, rfl⟩
  go_wp2_with fail
  refine (em_len _ _ HE1.out).mono ?_
  rintro e wx ⟨rfl, rfl⟩
  go_wp2_with fail
  refine (em_room _ _ HE1.out).mono ?_
  rintro e wx ⟨rfl, rfl⟩
  go_wp2_with fail
  refine (em_limit _ _ HE1.out).mono ?_
  rintro e wx ⟨rfl, rfl⟩
  go_wp2_with fail
  refine (em_list _ _ HE1.out).mono ?_
  rintro e X1 ⟨⟨pl1, cl1, rfl⟩, hbl1⟩
  have HX1 := Lib.hid (HN1.out.below hbl1)
  have HEX1 := Lib.hid (HE1.out.below hbl1)
  have HBL1 := Lib.hid hbl1
  clear hbl1 lc1
  go_wp2_with fail
  refine (em_clear _ _ HEX1.out).mono ?_
  rintro e wx ⟨rfl, rfl⟩
  go_wp2_with fail
  refine (all_I _ (some ⟨w.heap.size + 1, 0, none⟩)).mono ?_
  rintro e wx ⟨rfl, rfl⟩
  go_wp2_with fail
  obtain ⟨bx1, hbx1⟩ : ∃ b, X1.heap.size = b := ⟨_, rfl⟩
  have hI1 : NI w (X1.alloc (.cells #[.pointer (some ⟨w.heap.size + 1, 0, none⟩)] 23)) bx1 (some ⟨w.heap.size + 1, 0, none⟩) 0 (X1.alloc (.cells #[.pointer (some ⟨w.heap.size + 1, 0, none⟩)] 23)) :=
    ⟨⟨HX1.out.below ((Below.refl _ _).alloc (Nat.le_refl _) _), hbx1 ▸ Boxed.new X1 _ _⟩, Below.refl _ _⟩
  have HI1 := Lib.hid hI1
  have HBX1 := Lib.hid hbx1
  rw [hbx1]
  clear hI1 hbx1
  refine wpIn_wide.1 (range_law (n := 6) rfl (by omega) (gf := 51) (lb := #[.pointer (some ⟨bx1, 0, none⟩)]) rfl trivial (enters_of Try.func51 (by kernel_rfl) rfl)
    (fun _ _ => rfl) (all_iter_I 5 (by omega) bx1) (fun k x V h V' row hg hr => ?nx1) (fun k V h V' row hg hr => ?en1) (NI w (X1.alloc (.cells #[.pointer (some ⟨w.heap.size + 1, 0, none⟩)] 23)) bx1 (some ⟨w.heap.size + 1, 0, none⟩)) (fun _ _ => False)
    (nI_own w _ bx1 (some ⟨w.heap.size + 1, 0, none⟩) _ (by have := HX1.out.bel.size; simp; omega) (Nat.le_refl _)) (fun _ _ _ _ h _ _ => h) ?rd1 HI1.out ?a1 ?assign1 ?body1 ?done1 ?stop1)
  case nx1 =>
    obtain ⟨L', h1, h2⟩ := h
    exact ⟨L', h1.turn hg (fun r e => (hr r e).2), h2⟩
  case en1 =>
    obtain ⟨L', h1, h2⟩ := h
    exact ⟨L', h1.turn hg (fun r e => (hr r e).2), h2⟩
  case rd1 => exact fun k V h => ⟨[], _, h.1.2.cell, (h.1.1.em (.inr rfl)).holds⟩
  case assign1 =>
    intro l' k x W K hK
    unfold encs_I
    gi_wp2
    exact hK
  case stop1 =>
    rintro D c W _ h _
    exact h.elim
  case body1 =>
    rintro l' k x W h ⟨L', hL', hx⟩
    obtain rfl := hL'.uniq ⟨_, h.1.2.cell, (h.1.1.em (.inr rfl)).holds⟩
    simp at hx
  rintro D1 k1 Y1 hD1 _ ⟨⟨hN1y, _⟩, hby1⟩ hK1
  have HY1 := Lib.hid hN1y
  have HK1 := Lib.hid hK1
  have HEY1 := Lib.hid (hN1y.em (q := (some ⟨w.heap.size + 1, 0, none⟩)) (.inr rfl))
  have HDL1 := Lib.hid (show w.heap.size ≤ D1 by have := HX1.out.bel.size; simp at hD1; omega)
  have HBY1 := Lib.hid hby1
  have HDX1 := Lib.hid (show X1.heap.size ≤ D1 by simp at hD1; omega)
  clear hN1y hK1 hby1 hD1
  go_wp2_with fail
  refine (em_keep _ _ HEY1.out).mono ?_
  rintro e Z1 ⟨rfl, hez, hkz, hpz⟩
  have HZ1 := Lib.hid (HY1.out.kept (.inr rfl) hkz hpz)
  have HKZ1 := Lib.hid hkz
  clear hez hkz hpz
  go_wp2_with fail
  refine (same_true _ _ _ 0 [] (HZ1.out.em (q := (some ⟨w.heap.size + 1, 0, none⟩)) (.inr rfl)).qat (HZ1.out.em (q := none) (.inl rfl)).qat).mono ?_
  rintro e Y1b ⟨rfl, hb1⟩
  have HZ1b := Lib.hid (HZ1.out.below hb1)
  have HB11 := Lib.hid hb1
  clear hb1
  go_wp2_with fail
  refine (same_true _ _ _ 0 [] (HZ1b.out.em (q := some ⟨w.heap.size + 1, 0, none⟩) (.inr rfl)).qat (HZ1b.out.em (q := (some ⟨w.heap.size + 1, 0, none⟩)) (.inr rfl)).qat).mono ?_
  rintro e W2 ⟨rfl, hb2⟩
  have HN2 := Lib.hid (HZ1b.out.below hb2)
  have HB21 := Lib.hid hb2
  clear hb2
  go_wp2_with fail
  rw [rounds_succ]
  go_wp2_with fail
  refine (new_yes_I _ 3 (by omega) (by omega)).mono ?_
  rintro e V0 ⟨rfl, hv0⟩
  have hf : Qat_I V0 (some ⟨W2.heap.size, 0, none⟩) 3 [] := .inr ⟨0, _, _, ⟨3, [], 0⟩, rfl, hv0 ▸ PQ.new (Nat.zero_le _) 3, good_new (by omega) (by omega), rfl, rfl⟩
  have HF := Lib.hid hf
  have HV0 := Lib.hid (show Below W2.heap.size W2 V0 from hv0 ▸ (Below.refl _ _).alloc (Nat.le_refl _) _)
  clear hf hv0
  go_wp2_with fail
  refine (same_lim_I _ _ _ 3 0 [] [] HF.out (.inl ⟨rfl, rfl, rfl⟩) (by omega)).mono ?_
  rintro e V1 ⟨rfl, hb1⟩
  have HV1 := Lib.hid (bnext HV0.out hb1)
  clear hb1
  go_wp2_with fail
  refine (twin_nil_I _).mono ?_
  rintro e wx ⟨rfl, rfl⟩
  go_wp2_with fail
  refine (keep_nilf _ _).mono ?_
  rintro e wx ⟨rfl, rfl⟩
  go_wp2_with fail
  refine (works_any _).mono ?_
  rintro e V2 ⟨rfl, hb2⟩
  have HV2 := Lib.hid (bnext HV1.out hb2)
  have HN3 := Lib.hid (HN2.out.below HV2.out)
  have cr := HN3.out.br.cell
  have fr := HN3.out.br.frozen
  clear hb2
  go_wp2_with fail
  have a0 := def_below (def_below (def_keeps HK0.out HKZ0.out (fun x e => by cases e)) HB10.out) HB20.out
  have a1 := def_below a0 HBL1.out
  have a2 := def_below (def_below a1 ((Below.refl _ X1).alloc (Nat.le_refl _) (.cells #[.pointer (some ⟨w.heap.size + 1, 0, none⟩)] 23))) HBY1.out
  have hbc : ∀ x, (some (⟨w.heap.size + 1, 0, none⟩ : Addr)) = some ⟨x, 0, none⟩ → ∃ o : Obj, Y1.heap[x]? = some o ∧ o.isCells = true := fun x e => by
    injection e with e; injection e with e; subst e
    exact ⟨_, HY1.out.q.blk, rfl⟩
  have a3 := def_below (def_below (def_below (def_keeps a2 HKZ1.out hbc) HB11.out) HB21.out) HV2.out
  have b3 := def_below (def_below (def_below (def_keeps HK1.out HKZ1.out hbc) HB11.out) HB21.out) HV2.out
  have a4 := (KeepsOthers.setCell V2 ⟨w.heap.size, 0, none⟩ (.bool true)).same D0 _ a3 rfl
  have b4 := (KeepsOthers.setCell V2 ⟨w.heap.size, 0, none⟩ (.bool true)).same D1 _ b3 rfl
  have hne : D0 ≠ D1 := by
    intro e
    have h1 := lt_of_block a1
    have h2 := HDX1.out
    omega
  have a5 : ((V2.setCell ⟨w.heap.size, 0, none⟩ (.bool true)).putObj D1 (.deferred none)).heap[D0]? = some (.deferred (some [])) := (World.putObj_heap_other hne).trans a4
  refine ⟨by simp, .inl ⟨_, _, rfl, run_takeDeferred b4, ?_⟩⟩
  refine ⟨by simp, .inl ⟨_, _, rfl, run_takeDeferred a5, ?_⟩⟩
  have c1 := cell_kept (World.cell?_setCell_same V2 ⟨w.heap.size, 0, none⟩ (.bool true) cr) (grownBy_putObj' _ D1 (.deferred none)) (fun r e => by cases e; exact ⟨_, b4, rfl⟩)
  have c2 := cell_kept c1 (grownBy_putObj' _ D0 (.deferred none)) (fun r e => by cases e; exact ⟨_, a5, rfl⟩)
  refine ⟨.bool true, ?_, rfl, (((HN3.out.bel.setCell (p := ⟨w.heap.size, 0, none⟩) (Nat.le_refl _) _).trans (belowK_b (w := w) (Nat.le_refl _) _ D1 _ _ HDL1.out b4 rfl rfl)).trans (belowK_b (w := w) (Nat.le_refl _) _ D0 _ _ HDL0.out a5 rfl rfl))⟩
  simp [results, Try.results4, go_sem, c2]
end Go.Proofs.Ytdpchojfgcjbeaa
