/- The program's New and Push of a heap; no condition but those that each row names. -/
import Derived.Test.YtknhjbfhkfngeaaETake
import Derived.Deep.AppendLies
import Derived.WalkSpells
import Derived.Carry
namespace Go.Proofs.Ytknhjbfhkfngeaa
open Go.RowKit Go.Maps Hp

section
variable {α : Type} (enc : α → Value)
/-- A heap that nothing was put into. -/
def Fresh (T : TypeId) (B : Nat) (w : World) (b : Nat) : Prop := w.heap[b]? = some (.cells #[.slice none 0 0, .map none] T (0, 0)) ∧ B ≤ b
/-- A heap that is about to take one in: its map is there. -/
structure Rdy (T E : TypeId) (B : Nat) (w : World) (L : List (Int × α)) (b : Nat) (s : Value) (mb : Nat) : Prop where
  blk : w.heap[b]? = some (.cells #[s, .map (some mb)] T (0, 0))
  own : w.ownsRow B E 2 s L.length (cells2 enc L)
  mp : Places w mb L
  hb : B ≤ b
  hm : B ≤ mb
  sb : s.ownBlock ≠ some b
  sm : s.ownBlock ≠ some mb
  bm : b ≠ mb
  ids : ∀ e ∈ L, In64 e.1
variable {enc} {T E : TypeId} {B : Nat} {w : World} {L : List (Int × α)} {b g cap mb : Nat}
theorem HW.rdy (h : HW enc T E B w L b g cap mb) : Rdy enc T E B w L b (.slice (some ⟨g, 0, none⟩) L.length cap) mb :=
  ⟨h.blk, h.row.own enc h.hg h.hn h.hc, h.mp, h.hb, h.hm, by simpa [Value.ownBlock] using fun e => h.bg e.symm, by simpa [Value.ownBlock] using h.gm, h.bm, h.ids⟩
theorem Fresh.lt (h : Fresh T B w b) : b < w.heap.size := lt_of_block h.1
theorem Fresh.rdy (h : Fresh T B w b) : Rdy enc T E B ((w.setCell ⟨b, 1, none⟩ (.map (some w.heap.size))).alloc (.map #[] 0)) ([] : List (Int × α)) b (.slice none 0 0) w.heap.size := by
  have hlt := h.lt
  have hsz : (w.setCell ⟨b, 1, none⟩ (.map (some w.heap.size))).heap.size = w.heap.size := by simp [World.setCell]
  have hb : (w.setCell ⟨b, 1, none⟩ (.map (some w.heap.size))).heap[b]? = some (.cells #[.slice none 0 0, .map (some w.heap.size)] T (0, 0)) := by rw [heap_setCell_same _ _ _ _ _ _ h.1]; rfl
  have hp : Places ((w.setCell ⟨b, 1, none⟩ (.map (some w.heap.size))).alloc (.map #[] 0)) w.heap.size ([] : List (Int × α)) := by
    have := Places.empty (α := α) (w.setCell ⟨b, 1, none⟩ (.map (some w.heap.size)))
    rwa [hsz] at this
  exact ⟨(heap_alloc_old _ _ (by rw [hsz]; exact hlt)).trans hb, World.ownsRow_nil _ _ _ _, hp, h.2, by have := h.2; omega, by simp [Value.ownBlock], by simp [Value.ownBlock], by omega, fun e he => by simp at he⟩
theorem Rdy.lt {s : Value} (h : Rdy enc T E B w L b s mb) : b < w.heap.size := lt_of_block h.blk
theorem Rdy.f0 {s : Value} (h : Rdy enc T E B w L b s mb) : w.cell? ⟨b, 0, none⟩ = some s := by rw [cell_of_row _ _ _ _ _ _ h.blk]; rfl
theorem Rdy.f1 {s : Value} (h : Rdy enc T E B w L b s mb) : w.cell? ⟨b, 1, none⟩ = some (.map (some mb)) := by rw [cell_of_row _ _ _ _ _ _ h.blk]; rfl
theorem Rdy.fz {s : Value} (h : Rdy enc T E B w L b s mb) (j : Nat) : w.frozen? ⟨b, j, none⟩ = false := frozen_of_row _ _ _ _ _ h.blk
theorem Rdy.shape {s : Value} (h : Rdy enc T E B w L b s mb) : ∃ p c, s = .slice p L.length c := own_slice h.own
/-- The entry is appended and laid in the heap's cell: what the cells are then. -/
theorem Rdy.grown {s : Value} {o : Obj} {w1 : World} {v : Value} (h : Rdy enc T E B w L b s mb) (hg : (w.alloc o).grownBy w1 s.ownBlock) : w1.heap[b]? = some (.cells #[s, .map (some mb)] T (0, 0)) ∧ Places w1 mb L ∧ (w1.setCell ⟨b, 0, none⟩ v).heap[b]? = some (.cells #[v, .map (some mb)] T (0, 0)) := by
  have hb : w1.heap[b]? = some (.cells #[s, .map (some mb)] T (0, 0)) := (hg.block b (by simpa using Nat.lt_succ_of_lt h.lt) (fun e => h.sb e.symm)).trans ((heap_alloc_old w _ h.lt).trans h.blk)
  have hk : Keeps (fun x => s.ownBlock = some x) w w1 := ((Keeps.refl _ w).alloc o).grown hg (fun k e => .inl e)
  refine ⟨hb, h.mp.keeps hk h.sm, ?_⟩
  rw [heap_setCell_same _ _ _ _ _ _ hb]; rfl
/-- The whole of it. -/
theorem Rdy.pushed {s : Value} {o : Obj} {w1 w3 : World} {id : Int} {key : α} (hTE : T ≠ E) (h : Rdy enc T E B w L b s mb) (hg : (w.alloc o).grownBy w1 s.ownBlock)
    (hown : w1.ownsRow B E 2 (.slice (some ⟨g, 0, none⟩) (L.length + 1) cap) (L.length + 1) (cells2 enc L ++ [.int .i64 id, enc key])) (hp : Places w3 mb (L ++ [(id, key)]))
    (hk : Keeps (fun x => x = mb) (w1.setCell ⟨b, 0, none⟩ (.slice (some ⟨g, 0, none⟩) (L.length + 1) cap)) w3) (hid : In64 id) (hn : L.length + 1 ≤ 4096) :
    HW enc T E B w3 (L ++ [(id, key)]) b g cap mb := by
  obtain ⟨hb1, hm1, hb2⟩ := h.grown (v := .slice (some ⟨g, 0, none⟩) (L.length + 1) cap) hg
  have hcells : cells2 enc L ++ [.int .i64 id, enc key] = cells2 enc (L ++ [(id, key)]) := by rw [cells2_append]; rfl
  rw [hcells] at hown
  obtain ⟨hr, hBg, hnc, hcm⟩ := ERow.of_own enc (n := L.length + 1) (L := L ++ [(id, key)]) (by simp) hown
  have hbg : b ≠ g := by
    intro e
    obtain ⟨cur, hr', _⟩ := hr
    unfold Row at hr'
    rw [← e, hb1] at hr'
    injection hr' with hr'
    injection hr' with _ hr' _
    exact hTE hr'
  have hgm : g ≠ mb := by
    intro e
    obtain ⟨cur, hr', _⟩ := hr
    obtain ⟨D, ⟨es, clock, hmb, _⟩, _⟩ := hm1
    unfold Row at hr'
    rw [e, hmb] at hr'
    injection hr' with hr'
    cases hr'
  have hkb : Keeps (fun x => x = b) w1 (w1.setCell ⟨b, 0, none⟩ (.slice (some ⟨g, 0, none⟩) (L.length + 1) cap)) := (Keeps.refl _ _).setCell _ _ (.inl rfl)
  have hr2 := (hr.keeps enc hkb (fun e => hbg e.symm)).keeps enc hk hgm
  refine ⟨?_, hr2, by simpa using hnc, hcm, hp, h.hb, hBg, h.hm, hbg, h.bm, hgm, ?_, by simpa using hn⟩
  · have := (hk.block b (lt_of_block hb2) h.bm).trans hb2
    simpa using this
  · intro e he
    simp only [List.mem_append, List.mem_singleton] at he
    rcases he with he | rfl
    · exact h.ids e he
    · exact hid
variable [Inhabited α]
/-- The new one stands at the end: all else is right. -/
theorem push_fix {kc : α → α → Int} {x : Int × α} (hh : Heap (ahB kc) (at' L) L.length) : Fix (ahB kc) (at' (L ++ [x])) (L ++ [x]).length L.length := by
  have hl : (L ++ [x]).length = L.length + 1 := by simp
  rw [hl]
  refine ⟨fun i h0 hi h1 h2 => ?_, fun i h0 hi hp _ => ?_⟩
  · have := par_lt h0
    rw [at_append_l _ _ _ (by omega), at_append_l _ _ _ (by omega)]
    exact hh i h0 (by omega)
  · have := par_lt h0; omega
/-- An entry has come. -/
def PushEnd (kc : α → α → Int) (enc : α → Value) (T E : TypeId) (B : Nat) (w : World) (L : List (Int × α)) (b : Nat) (s : Value) (mb : Nat) (x : Int × α) (w' : World) : Prop :=
  ∃ L' g cap, HW enc T E B w' L' b g cap mb ∧ Heap (ahB kc) (at' L') L'.length ∧ L'.Perm (x :: L) ∧ Keeps (fun x => x = b ∨ s.ownBlock = some x ∨ x = mb) w w' ∧ (s.ownBlock = some g ∨ w.heap.size ≤ g)
end
set_option maxHeartbeats 400000 in
theorem new_I (w : World) : Calls Try.prog 10 #[] w fun e w' => e = .returned (.pointer (some ⟨w.heap.size, 0, none⟩)) ∧ w' = w.alloc (.cells #[.slice none 0 0, .map none] HT_I) := by
  go_enter Try.func10, Try.ntmps10
  go_wp2
  go_ret
  exact ⟨rfl, rfl⟩
section
variable {B : Nat} {w : World} {L : List (Int × Int)} {b g cap mb : Nat}
set_option maxHeartbeats 2000000 in
set_option maxRecDepth 100000 in
theorem push_used_I (h : HW enc_I HT_I NT_I B w L b g cap mb) (hh : Heap (ahB kc_I) (at' L) L.length) (id : Int) (key : Int) (hid : In64 id) (hno : ∀ e ∈ L, e.1 ≠ id) (hn : L.length + 1 ≤ 4096) (hB : B ≤ w.heap.size) :
    Calls Try.prog 13 #[.pointer (some ⟨b, 0, none⟩), .int .i64 id, (.int .i64 key)] w (fun e w' => e = .returned .nilIface ∧ PushEnd kc_I enc_I HT_I NT_I B w L b (.slice (some ⟨g, 0, none⟩) L.length cap) mb (id, key) w') := by
  obtain ⟨i0, hi, hz0, hz1, hz2⟩ := info_parts Try.inf51
  have HP := Lib.hid (place_no_I h id hid hno)
  have HR := Lib.hid h.rdy
  have HX := Lib.hid (push_fix (kc := kc_I) (x := (id, key)) hh)
  have HNO := Lib.hid hno
  have HID := Lib.hid hid
  have HN := Lib.hid hn
  have f0 := h.f0
  have f1 := h.f1
  have fz := h.fz 0
  have hlt := h.lt
  have qT : ∀ (w : World) (r : Option Nat), (binOp .eql 47 (.map r) (.map none)).run Try.prog w = .ok (.bool r.isNone) w := fun w r => run_eql_map_nil w _ _ _ r Try.underlying47
  have hmm := @run_makeMap Try.prog
  clear h hh hid hno
  go_enter Try.func13, Try.ntmps13
  go_wp2_with fail
  refine HP.out.mono ?_
  rintro e w1 ⟨rfl, rfl⟩
  go_wp2_with (at_builtin; refine wpList_append_lies _ rfl _ _ 46 rfl B 51 i0 (.agg #[.int .i64 0, .int .i64 0]) 2 16 Try.underlying46 hi hz0 hz1 hz2 rfl (by decide) (.slice (some ⟨g, 0, none⟩) L.length cap) L.length (cells2 enc_I L) rfl (HR.out.own.kept (World.grownBy_alloc _ _ none) (by simp [Value.ownBlock])) ⟨w.heap.size, 0, none⟩ 1 1 [.int .i64 id, (.int .i64 key)] rfl rfl (World.news_of_block (heap_alloc_new _ _)) (by simp [Value.oneCell']) (by decide) (by have := HN.out; unfold maxLen; omega) (by have := HN.out; omega) (by simp; omega) _ rfl ?_)
  intro g' cap' w2 hown hgrow hat hlt2
  obtain ⟨hb1, hm1, hb2⟩ := HR.out.grown (v := .slice (some ⟨g', 0, none⟩) (L.length + 1) cap') hgrow
  have c0 : w2.cell? ⟨b, 0, none⟩ = some ((.slice (some ⟨g, 0, none⟩) L.length cap)) := by rw [cell_of_row _ _ _ _ _ _ hb1]; rfl
  have z0 : w2.frozen? ⟨b, 0, none⟩ = false := frozen_of_row _ _ _ _ _ hb1
  have d1 : (w2.setCell ⟨b, 0, none⟩ (.slice (some ⟨g', 0, none⟩) (L.length + 1) cap')).cell? ⟨b, 1, none⟩ = some (.map (some mb)) := by rw [cell_of_row _ _ _ _ _ _ hb2]; rfl
  have hkb : Keeps (fun x => x = b) w2 (w2.setCell ⟨b, 0, none⟩ (.slice (some ⟨g', 0, none⟩) (L.length + 1) cap')) := (Keeps.refl _ _).setCell _ _ (.inl rfl)
  obtain ⟨D, ho, hs, hsp⟩ := hm1.keeps hkb (fun e => HR.out.bm e.symm)
  have HSP := Lib.hid (spec_push (ho.tidy keyLaw) hsp id key HNO.out)
  have HSZ := Lib.hid hs
  have HKG := Lib.hid (((Keeps.refl (fun x => x = b ∨ Value.ownBlock ((.slice (some ⟨g, 0, none⟩) L.length cap)) = some x ∨ x = mb) w).alloc _).grown hgrow (fun k e => .inl (.inr (.inl e))))
  have HOW := Lib.hid hown
  have HGR := Lib.hid hgrow
  have HKB := Lib.hid hkb
  have HAT := Lib.hid hat
  clear hb1 hm1 hs hsp hown hgrow hkb hat hlt2 f0 f1 fz hlt
  go_wp2_with (at_mapUpdate; refine wpList_mapUpdate_own _ rfl _ _ _ 47 rfl 3 3 keyLaw Try.underlying47 _ mb _ D rfl ho (by have := HN.out; unfold maxLen; omega) _ _ _ rfl rfl HID.out.key _ [] (plainElem_int Try.underlying3 (In64.nat (by have := HN.out; omega)).wf) ?_)
  intro w3 hown3 hgrow3
  have hk3 := keeps_grown hgrow3
  have hp3 : Places w3 mb (L ++ [(id, key)]) := ⟨_, by
    have h1 : w3.ownsMap Try.prog 3 (plainElem Try.prog 3) mb _ (D.put (litI id) (.lit (litI L.length))) := hown3
    have h2 := own_size h1
    rw [HSP.out.2, HSZ.out] at h2
    simpa using h2, by rw [HSP.out.2, HSZ.out]; simp, HSP.out.1⟩
  have hw3 := HR.out.pushed (by decide) HGR.out HOW.out hp3 hk3 HID.out HN.out
  have HRI := Lib.hid (rise_I hw3 L.length (by simp) HX.out)
  have HK3 := Lib.hid (((HKG.out.trans (HKB.out.mono (fun _ => .inl))).trans (hk3.mono (fun _ e => .inr (.inr e)))))
  clear hk3 hp3 hw3 hgrow3 hown3 ho c0 z0 d1 hb2
  go_wp2_with fail
  refine HRI.out.mono ?_
  rintro e w4 ⟨rfl, L4, hm4, hd4⟩
  have hl4 := hm4.perm.length_eq
  have HE := Lib.hid (show PushEnd kc_I enc_I HT_I NT_I B w L b (.slice (some ⟨g, 0, none⟩) L.length cap) mb (id, key) w4 from by
    refine ⟨L4, g', cap', hm4.hw, by rw [hl4]; exact hd4.leaf (by simp; omega), hm4.perm.trans (List.perm_append_comm (l₁ := L) (l₂ := [(id, key)])), ?_, ?_⟩
    · refine ⟨hm4.keeps.os.trans HK3.out.os, hm4.keeps.tape.trans HK3.out.tape, hm4.keeps.output.trans HK3.out.output, Nat.le_trans HK3.out.size hm4.keeps.size, fun x hx hn => ?_⟩
      have h1 : ¬ (x = g' ∨ x = mb) := by
        rintro (rfl | rfl)
        · rcases HAT.out with e | e
          · exact hn (.inr (.inl e))
          · omega
        · exact hn (.inr (.inr rfl))
      exact (hm4.keeps.block x (Nat.lt_of_lt_of_le hx HK3.out.size) h1).trans (HK3.out.block x hx hn)
    · rcases HAT.out with e | e
      · exact .inl e
      · right; omega)
  clear hl4 hm4 hd4
  go_wp2_with fail
  go_ret
  exact ⟨rfl, HE.out⟩
set_option maxHeartbeats 2000000 in
set_option maxRecDepth 100000 in
theorem push_fresh_I (h : Fresh HT_I B w b) (id : Int) (key : Int) (hid : In64 id) (hB : B ≤ w.heap.size) :
    Calls Try.prog 13 #[.pointer (some ⟨b, 0, none⟩), .int .i64 id, (.int .i64 key)] w (fun e w' => e = .returned .nilIface ∧ PushEnd kc_I enc_I HT_I NT_I B w [] b (.slice none 0 0) w.heap.size (id, key) w') := by
  obtain ⟨i0, hi, hz0, hz1, hz2⟩ := info_parts Try.inf51
  have f1 : w.cell? ⟨b, 1, none⟩ = some (.map none) := by rw [cell_of_row _ _ _ _ _ _ h.1]; rfl
  have fz : w.frozen? ⟨b, 1, none⟩ = false := frozen_of_row _ _ _ _ _ h.1
  have HP := Lib.hid (place_none_I w b id hid f1)
  have HRF := Lib.hid (h.rdy (enc := enc_I) (E := NT_I))
  have HX := Lib.hid (push_fix (kc := kc_I) (L := []) (x := (id, key)) (fun i h0 hi => by simp at hi))
  have HNO := Lib.hid (show ∀ e ∈ ([] : List (Int × Int)), e.1 ≠ id from fun e he => by simp at he)
  have HID := Lib.hid hid
  have HN := Lib.hid (show (0 : Nat) + 1 ≤ 4096 from by simp)
  have hlt := h.lt
  have qT : ∀ (w : World) (r : Option Nat), (binOp .eql 47 (.map r) (.map none)).run Try.prog w = .ok (.bool r.isNone) w := fun w r => run_eql_map_nil w _ _ _ r Try.underlying47
  have hmm := @run_makeMap Try.prog
  clear h hid
  go_enter Try.func13, Try.ntmps13
  go_wp2_with fail
  refine HP.out.mono ?_
  rintro e w1 ⟨rfl, rfl⟩
  go_upto_if 26 with fail
  go_cut [] (fun wx => Hid (Rdy enc_I HT_I NT_I B wx ([] : List (Int × Int)) b (.slice none 0 0) w.heap.size ∧ Keeps (fun x => x = b) w wx))
  case first =>
    go_wp2_with fail
    go_meet
    exact Lib.hid ⟨HRF.out, ((Keeps.refl (fun x => x = b) w).setCell _ _ (.inl rfl)).alloc _⟩
  case rest =>
    obtain ⟨hr, hk⟩ := hcut.out
    have HR := Lib.hid hr
    have HKC := Lib.hid hk
    have hlw : w.heap.size ≤ wc.heap.size := hk.size
    have f0 := hr.f0
    have d0 := hr.f1
    have fz0 := hr.fz 0
    clear hr hk hcut f1 fz HP HRF qT hmm hlt
    go_wp2_with (at_builtin; refine wpList_append_lies _ rfl _ _ 46 rfl B 51 i0 (.agg #[.int .i64 0, .int .i64 0]) 2 16 Try.underlying46 hi hz0 hz1 hz2 rfl (by decide) (.slice none 0 0) 0 (cells2 enc_I ([] : List (Int × Int))) rfl (HR.out.own.kept (World.grownBy_alloc _ _ none) (by simp [Value.ownBlock])) ⟨wc.heap.size, 0, none⟩ 1 1 [.int .i64 id, (.int .i64 key)] rfl rfl (World.news_of_block (heap_alloc_new _ _)) (by simp [Value.oneCell']) (by decide) (by unfold maxLen; omega) (by omega) (by simp; omega) _ rfl ?_)
    intro g' cap' w2 hown hgrow hat hlt2
    obtain ⟨hb1, hm1, hb2⟩ := HR.out.grown (v := .slice (some ⟨g', 0, none⟩) (1) cap') hgrow
    have c0 : w2.cell? ⟨b, 0, none⟩ = some ((.slice none 0 0)) := by rw [cell_of_row _ _ _ _ _ _ hb1]; rfl
    have z0 : w2.frozen? ⟨b, 0, none⟩ = false := frozen_of_row _ _ _ _ _ hb1
    have d1 : (w2.setCell ⟨b, 0, none⟩ (.slice (some ⟨g', 0, none⟩) (1) cap')).cell? ⟨b, 1, none⟩ = some (.map (some w.heap.size)) := by rw [cell_of_row _ _ _ _ _ _ hb2]; rfl
    have hkb : Keeps (fun x => x = b) w2 (w2.setCell ⟨b, 0, none⟩ (.slice (some ⟨g', 0, none⟩) (1) cap')) := (Keeps.refl _ _).setCell _ _ (.inl rfl)
    obtain ⟨D, ho, hs, hsp⟩ := hm1.keeps hkb (fun e => HR.out.bm e.symm)
    have HSP := Lib.hid (show Spec (D.put (litI id) (.lit (litI 0))) ([] ++ [(id, key)]) ∧ Maps.size (D.put (litI id) (.lit (litI 0))) = Maps.size D + 1 from spec_push (ho.tidy keyLaw) hsp id key HNO.out)
    have HSZ := Lib.hid (show Maps.size D = 0 from hs)
    have HKG := Lib.hid (((Keeps.refl (fun x => x = b ∨ Value.ownBlock ((.slice none 0 0)) = some x ∨ x = w.heap.size) wc).alloc _).grown hgrow (fun k e => .inl (.inr (.inl e))))
    have HOW := Lib.hid hown
    have HGR := Lib.hid hgrow
    have HKB := Lib.hid hkb
    have HAT := Lib.hid hat
    clear hb1 hm1 hs hsp hown hgrow hkb hat hlt2 f0 d0 fz0
    go_wp2_with (at_mapUpdate; refine wpList_mapUpdate_own _ rfl _ _ _ 47 rfl 3 3 keyLaw Try.underlying47 _ w.heap.size _ D rfl ho (by unfold maxLen; simp) _ _ _ rfl rfl HID.out.key _ [] (plainElem_int (a := 0) Try.underlying3 (by decide)) ?_)
    intro w3 hown3 hgrow3
    have hk3 := keeps_grown hgrow3
    have hp3 : Places w3 w.heap.size ([] ++ [(id, key)]) := ⟨_, by
      have h1 : w3.ownsMap Try.prog 3 (plainElem Try.prog 3) w.heap.size _ (D.put (litI id) (.lit (litI 0))) := hown3
      have h2 := own_size h1
      rw [HSP.out.2, HSZ.out] at h2
      simpa using h2, by rw [HSP.out.2, HSZ.out]; simp, HSP.out.1⟩
    have hw3 := HR.out.pushed (by decide) HGR.out HOW.out hp3 hk3 HID.out HN.out
    have HRI := Lib.hid (rise_I hw3 0 (by simp) HX.out)
    have HK3 := Lib.hid (((HKG.out.trans (HKB.out.mono (fun _ => .inl))).trans (hk3.mono (fun _ e => .inr (.inr e)))))
    clear hk3 hp3 hw3 hgrow3 hown3 ho c0 z0 d1 hb2
    go_wp2_with fail
    refine HRI.out.mono ?_
    rintro e w4 ⟨rfl, L4, hm4, hd4⟩
    have hl4 := hm4.perm.length_eq
    have HE := Lib.hid (show PushEnd kc_I enc_I HT_I NT_I B w [] b (.slice none 0 0) w.heap.size (id, key) w4 from by
      have HK4 := (HKC.out.mono (fun _ => .inl)).trans HK3.out
      refine ⟨L4, g', cap', hm4.hw, by rw [hl4]; exact hd4.leaf (by simp), hm4.perm.trans (List.perm_append_comm (l₁ := []) (l₂ := [(id, key)])), ?_, ?_⟩
      · refine ⟨hm4.keeps.os.trans HK4.os, hm4.keeps.tape.trans HK4.tape, hm4.keeps.output.trans HK4.output, Nat.le_trans HK4.size hm4.keeps.size, fun x hx hn => ?_⟩
        have h1 : ¬ (x = g' ∨ x = w.heap.size) := by
          rintro (rfl | rfl)
          · rcases HAT.out with e | e
            · exact hn (.inr (.inl e))
            · omega
          · exact hn (.inr (.inr rfl))
        exact (hm4.keeps.block x (Nat.lt_of_lt_of_le hx HK4.size) h1).trans (HK4.block x hx hn)
      · rcases HAT.out with e | e
        · exact .inl e
        · right; omega)
    clear hl4 hm4 hd4
    go_wp2_with fail
    go_ret
    exact ⟨rfl, HE.out⟩
end
end Go.Proofs.Ytknhjbfhkfngeaa
