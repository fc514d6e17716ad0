/- The program's calendar in a world, and its calls: New, At, Put, Drop, Next, Len; no condition but those that each row names. -/
import Derived.Test.YtknhjbfhkfngeaaNMath
namespace Go.Proofs.Ytknhjbfhkfngeaa
open Go.RowKit Go.Maps Hp Cal

abbrev CT : TypeId := 41
/-- A calendar that has the numbers L; its blocks are S. -/
def CalR (B : Nat) (S : Nat → Prop) (w : World) (L : List Pr) (c : Nat) : Prop :=
  ∃ h S0, w.heap[c]? = some (.cells #[.pointer (some ⟨h, 0, none⟩)] CT (0, 0)) ∧ B ≤ c ∧ HpR kc_I enc_I HT_I NT_I B S0 w L h ∧ ¬ S0 c ∧ ∀ x, S x ↔ x = c ∨ S0 x
/-- What a call makes of it. -/
def TurnC (B : Nat) (S : Nat → Prop) (w : World) (L' : List Pr) (c : Nat) (w' : World) : Prop :=
  ∃ S', CalR B S' w' L' c ∧ Keeps S w w' ∧ ∀ x, S' x → S x ∨ w.heap.size ≤ x
def GoneC (B : Nat) (S : Nat → Prop) (w : World) (L' : List Pr) (c : Nat) (w' : World) : Prop := CalR B S w' L' c ∧ Keeps S w w'
section
variable {B : Nat} {S : Nat → Prop} {w w' : World} {L : List Pr} {c : Nat}
theorem CalR.lt (h : CalR B S w L c) : ∀ x, S x → B ≤ x ∧ x < w.heap.size := by
  obtain ⟨h0, S0, hb, hB, hh, _, hS⟩ := h
  intro x hx
  rcases (hS x).1 hx with rfl | k
  · exact ⟨hB, (Array.getElem?_eq_some_iff.1 hb).1⟩
  · exact hh.lt x k
theorem CalR.below (h : CalR B S w L c) (hk : Below w.heap.size w w') : CalR B S w' L c := by
  obtain ⟨h0, S0, hb, hB, hh, hn, hS⟩ := h
  exact ⟨h0, S0, (hk.block c (Array.getElem?_eq_some_iff.1 hb).1).trans hb, hB, hh.below hk, hn, hS⟩
theorem CalR.perm {R : List Pr} (h : CalR B S w L c) (hp : L.Perm R) : CalR B S w R c := by
  obtain ⟨h0, S0, hb, hB, hh, hn, hS⟩ := h
  exact ⟨h0, S0, hb, hB, hh.perm hp, hn, hS⟩
theorem CalR.gone {R : List Pr} {h0 : Nat} {S0 : Nat → Prop} (hb : w.heap[c]? = some (.cells #[.pointer (some ⟨h0, 0, none⟩)] CT (0, 0))) (hB : B ≤ c) (hn : ¬ S0 c) (hS : ∀ x, S x ↔ x = c ∨ S0 x)
    (hg : Gone kc_I enc_I HT_I NT_I B S0 w R h0 w') : GoneC B S w R c w' :=
  ⟨⟨h0, S0, (hg.2.block c (Array.getElem?_eq_some_iff.1 hb).1 hn).trans hb, hB, hg.1, hn, hS⟩, hg.2.mono fun x hx => (hS x).2 (.inr hx)⟩
theorem GoneC.turn {R : List Pr} (h : GoneC B S w R c w') : TurnC B S w R c w' := ⟨S, h.1, h.2, fun _ k => .inl k⟩
theorem CalR.come {R : List Pr} {h0 : Nat} {S0 : Nat → Prop} (hb : w.heap[c]? = some (.cells #[.pointer (some ⟨h0, 0, none⟩)] CT (0, 0))) (hB : B ≤ c) (hn : ¬ S0 c) (hS : ∀ x, S x ↔ x = c ∨ S0 x)
    (hg : Come kc_I enc_I HT_I NT_I B S0 w R h0 w') : TurnC B S w R c w' := by
  obtain ⟨S1, h1, h2, h3⟩ := hg
  have hlt := (Array.getElem?_eq_some_iff.1 hb).1
  refine ⟨fun x => x = c ∨ S1 x, ⟨h0, S1, (h2.block c hlt hn).trans hb, hB, h1, fun k => ?_, fun _ => Iff.rfl⟩, h2.mono fun x hx => (hS x).2 (.inr hx), fun x hx => ?_⟩
  · rcases h3 c k with e | e
    · exact hn e
    · omega
  · rcases hx with rfl | hx
    · exact .inl ((hS x).2 (.inl rfl))
    · rcases h3 x hx with e | e
      · exact .inl ((hS x).2 (.inr e))
      · exact .inr e
theorem TurnC.after {R : List Pr} {w1 : World} (hb : Below w.heap.size w w1) (h : TurnC B S w1 R c w') : TurnC B S w R c w' := by
  obtain ⟨S1, h1, h2, h3⟩ := h
  exact ⟨S1, h1, (Keeps.of_below hb).trans h2, fun x hx => (h3 x hx).imp id (fun k => Nat.le_trans hb.size k)⟩
theorem TurnC.perm {R R' : List Pr} (h : TurnC B S w R c w') (hp : R.Perm R') : TurnC B S w R' c w' := by
  obtain ⟨S1, h1, h2⟩ := h
  exact ⟨S1, h1.perm hp, h2⟩
theorem GoneC.after {R : List Pr} {w1 : World} (hb : Below w.heap.size w w1) (h : GoneC B S w1 R c w') : GoneC B S w R c w' := ⟨h.1, (Keeps.of_below hb).trans h.2⟩
theorem GoneC.of_below (h : CalR B S w L c) (hb : Below w.heap.size w w') : GoneC B S w L c w' := ⟨h.below hb, Keeps.of_below hb⟩
theorem TurnC.under {R : List Pr} {w0 : World} (h : TurnC B S w R c w') (hb : Below B w0 w) (hc : CalR B S w L c) : Below B w0 w' := by
  obtain ⟨S1, _, h2, _⟩ := h
  have hB : B ≤ w.heap.size := by
    obtain ⟨_, _, hb, hB, _⟩ := hc
    have := (Array.getElem?_eq_some_iff.1 hb).1
    omega
  exact hb.trans (h2.below hB fun x hx => (hc.lt x hx).1)
end
section
variable {B : Nat} {S : Nat → Prop} {w : World} {L : List Pr} {c : Nat}
theorem cnew_any (w : World) (hB : B ≤ w.heap.size) : Calls Try.prog 4 #[] w fun e w' => ∃ c S, e = .returned (.pointer (some ⟨c, 0, none⟩)) ∧ CalR B S w' [] c ∧ Below w.heap.size w w' ∧ ∀ x, S x → w.heap.size ≤ x := by
  go_enter Try.func4, Try.ntmps4
  go_wp2_with fail
  refine (new_I w).mono ?_
  rintro e w1 ⟨rfl, rfl⟩
  go_wp2_with fail
  go_ret
  have h0 := hp_new_I (B := B) w hB
  have hb : Below w.heap.size w (w.alloc (.cells #[.slice none 0 0, .map none] HT_I)) := (Below.refl _ _).alloc (Nat.le_refl _) _
  refine ⟨_, fun x => x = w.heap.size + 1 ∨ x = w.heap.size, rfl, ⟨w.heap.size, _, ?_, by omega, h0.below ((Below.refl _ _).alloc (Nat.le_refl _) _), fun e => by omega, fun x => Iff.rfl⟩, hb.alloc (by simp) _, fun x hx => by omega⟩
  have := heap_alloc_new (w.alloc (.cells #[.slice none 0 0, .map none] HT_I)) (.cells #[.pointer (some ⟨w.heap.size, 0, none⟩)] CT)
  simpa using this
theorem cat_any (h : CalR B S w L c) (id : Int) (hid : In64 id) :
    Calls Try.prog 11 #[.pointer (some ⟨c, 0, none⟩), .int .i64 id] w fun e w' => e = .returned (.tuple #[.int .i64 (atV id L), .bool (atB id L)]) ∧ Below w.heap.size w w' := by
  obtain ⟨h0, S0, hb, hB, hh, hn, hS⟩ := h
  have HK := Lib.hid (show Calls Try.prog 17 #[.pointer (some ⟨h0, 0, none⟩), .int .i64 id] w fun e w' => e = .returned (.tuple #[.int .i64 (atV id L), .bool (atB id L)]) ∧ Below w.heap.size w w' from by
    unfold atV atB
    cases hf : findI id L with
    | none => exact key_no hh id hid (findI_none hf)
    | some i =>
      obtain ⟨hi, h2, _⟩ := findI_some hf
      refine key_yes hh id _ ?_
      have h3 : L.getD i (0, 0) = L[i] := by rw [List.getD_eq_getElem?_getD, List.getElem?_eq_getElem hi]; rfl
      show (id, (L.getD i (0, 0)).2) ∈ L
      rw [h3, ← h2]
      exact List.getElem_mem hi)
  have f0 : w.cell? ⟨c, 0, none⟩ = some (.pointer (some ⟨h0, 0, none⟩)) := by rw [cell_of_row _ _ _ _ _ _ hb]; rfl
  generalize atV id L = y at *
  generalize atB id L = z at *
  clear hh hb hn hS
  go_enter Try.func11, Try.ntmps11
  go_wp2_with fail
  refine HK.out.mono ?_
  rintro e w1 ⟨rfl, hb⟩
  have HB := Lib.hid hb
  clear hb
  go_wp2_with fail
  go_ret2
  exact ⟨rfl, HB.out⟩
theorem cput_no (w : World) (c : Nat) (id a : Int) (hn : id < 0 ∨ a < 0) :
    Calls Try.prog 5 #[.pointer (some ⟨c, 0, none⟩), .int .i64 id, .int .i64 a] w fun e w' => e = .returned (.iface 42 (.int .i64 1)) ∧ w = w' := by
  by_cases h1 : id < 0
  · clear hn
    go_enter Try.func5, Try.ntmps5
    go_wp2_with fail
    go_ret
    exact ⟨rfl, rfl⟩
  · have h2 : a < 0 := by omega
    clear hn
    go_enter Try.func5, Try.ntmps5
    go_wp2_with fail
    go_ret
    exact ⟨rfl, rfl⟩
set_option maxHeartbeats 1000000 in
theorem cput_yes (h : CalR B S w L c) (id a : Int) (hid : In64 id) (h1 : 0 ≤ id) (h2 : 0 ≤ a) (h4 : L.length ≤ 4000) (hBw : B ≤ w.heap.size) :
    Calls Try.prog 5 #[.pointer (some ⟨c, 0, none⟩), .int .i64 id, .int .i64 a] w fun e w' => e = .returned .nilIface ∧ TurnC B S w (putL id a L) c w' := by
  have HA := Lib.hid (cat_any h id hid)
  have HC := Lib.hid h
  obtain ⟨h0, S0, hb, hB, hh, hn, hS⟩ := h
  have f0 : w.cell? ⟨c, 0, none⟩ = some (.pointer (some ⟨h0, 0, none⟩)) := by rw [cell_of_row _ _ _ _ _ _ hb]; rfl
  have hlt := (Array.getElem?_eq_some_iff.1 hb).1
  have HF := Lib.hid (show ∀ w1, Below w.heap.size w w1 → w1.cell? ⟨c, 0, none⟩ = some (.pointer (some ⟨h0, 0, none⟩)) from fun w1 k => (k.cell (p := ⟨c, 0, none⟩) hlt).trans f0)
  cases hf : findI id L with
  | some i =>
    obtain ⟨hi, _, _⟩ := findI_some hf
    have HM := Lib.hid (show ∀ w1, Below w.heap.size w w1 → Calls Try.prog 12 #[.pointer (some ⟨h0, 0, none⟩), .int .i64 id, .int .i64 a] w1 (fun e w' => e = .returned .nilIface ∧ TurnC B S w (putL id a L) c w') from fun w1 k =>
      (move_there (hh.below k) id L[i].2 a (remL id L) (rem_perm hf hi)).mono fun e w' ⟨he, hg⟩ =>
        ⟨he, ((CalR.gone ((k.block c hlt).trans hb) hB hn hS hg).turn.perm (put_perm id a L)).after k⟩)
    have hz : atB id L = true := by unfold atB; rw [hf]; rfl
    rw [hz] at HA
    generalize atV id L = y at HA
    generalize putL id a L = L' at *
    clear hh hb hS hf hz hn
    go_enter Try.func5, Try.ntmps5
    go_wp2_with fail
    refine HA.out.mono ?_
    rintro e w1 ⟨rfl, hb⟩
    have f1 := HF.out w1 hb
    have HM1 := Lib.hid (HM.out w1 hb)
    clear hb
    go_wp2_with fail
    refine HM1.out.mono ?_
    rintro e w2 ⟨rfl, hg⟩
    have HG := Lib.hid hg
    clear hg
    go_wp2_with fail
    go_ret
    exact ⟨rfl, HG.out⟩
  | none =>
    have HM := Lib.hid (show ∀ w1, Below w.heap.size w w1 → Calls Try.prog 13 #[.pointer (some ⟨h0, 0, none⟩), .int .i64 id, .int .i64 a] w1 (fun e w' => e = .returned .nilIface ∧ TurnC B S w (putL id a L) c w') from fun w1 k =>
      (push_I (hh.below k) id a hid (findI_none hf) (by omega) (Nat.le_trans hBw k.size)).mono fun e w' ⟨he, hg⟩ =>
        ⟨he, ((CalR.come ((k.block c hlt).trans hb) hB hn hS hg).perm (by have := put_perm id a L; rwa [rem_none hf] at this)).after k⟩)
    have hz : atB id L = false := by unfold atB; rw [hf]; rfl
    rw [hz] at HA
    generalize atV id L = y at HA
    generalize putL id a L = L' at *
    clear hh hb hS hf hz hn
    go_enter Try.func5, Try.ntmps5
    go_wp2_with fail
    refine HA.out.mono ?_
    rintro e w1 ⟨rfl, hb⟩
    have f1 := HF.out w1 hb
    have HM1 := Lib.hid (HM.out w1 hb)
    clear hb
    go_wp2_with fail
    refine HM1.out.mono ?_
    rintro e w2 ⟨rfl, hg⟩
    have HG := Lib.hid hg
    clear hg
    go_wp2_with fail
    go_ret
    exact ⟨rfl, HG.out⟩
theorem clen_any (h : CalR B S w L c) :
    Calls Try.prog 8 #[.pointer (some ⟨c, 0, none⟩)] w fun e w' => e = .returned (.int .i64 L.length) ∧ w = w' := by
  obtain ⟨h0, S0, hb, hB, hh, hn, hS⟩ := h
  have f0 : w.cell? ⟨c, 0, none⟩ = some (.pointer (some ⟨h0, 0, none⟩)) := by rw [cell_of_row _ _ _ _ _ _ hb]; rfl
  have HL := Lib.hid (len_I hh)
  clear hh hb hS hn
  go_enter Try.func8, Try.ntmps8
  go_wp2_with fail
  refine HL.out.mono ?_
  rintro e w1 ⟨rfl, rfl⟩
  go_wp2_with fail
  go_ret
  exact ⟨rfl, rfl⟩
/-- What Next answers. -/
theorem cnext_any (h : CalR B S w L c) (hg : Cal.Good L) :
    Calls Try.prog 7 #[.pointer (some ⟨c, 0, none⟩)] w fun e w' => e = .returned (.tuple #[.int .i64 (nxV L), .bool (nxB L)]) ∧ Below w.heap.size w w' := by
  obtain ⟨h0, S0, hb, hB, hh, hn, hS⟩ := h
  have f0 : w.cell? ⟨c, 0, none⟩ = some (.pointer (some ⟨h0, 0, none⟩)) := by rw [cell_of_row _ _ _ _ _ _ hb]; rfl
  have HM := Lib.hid (show Calls Try.prog 15 #[.pointer (some ⟨h0, 0, none⟩)] w fun e w' => (∃ i, e = .returned (.tuple #[.int .i64 i, .int .i64 (nxV L), .bool (nxB L)])) ∧ Below w.heap.size w w' from by
    cases L with
    | nil => exact (min_none_I hh).mono fun e w' ⟨he, hw⟩ => ⟨⟨0, he⟩, hw ▸ Below.refl _ _⟩
    | cons x r => exact (min_I hh x (good_mn hg)).mono fun e w' ⟨he, hb⟩ => ⟨⟨_, he⟩, hb⟩)
  generalize nxV L = y at *
  generalize nxB L = z at *
  clear hh hb hS hn hg
  go_enter Try.func7, Try.ntmps7
  go_wp2_with fail
  refine HM.out.mono ?_
  rintro e w1 ⟨⟨i, rfl⟩, hb⟩
  have HB := Lib.hid hb
  clear hb
  go_wp2_with fail
  go_ret2
  exact ⟨rfl, HB.out⟩
end
end Go.Proofs.Ytknhjbfhkfngeaa
