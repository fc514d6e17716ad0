/- The law TaskOwn: it answers true, whatever the input; no condition but what the rows' listed variables hold. -/
import Derived.Test.YtpfhebfkhailfaaDoorULawA
import Derived.Maps.AppendAt
import Derived.Laws.OwnMore
namespace Go.Proofs.YtpfhebfkhailfaaDoor
open Go.RowKit Go.Shelf Tsk

/-- Two rows of one's own, the blocks of the tasks that name them, and a world that stays. -/
structure Two (V : World) (B1 B2 : Nat) (sa sb : Value) (na nb ga gb : Nat) (oa ob : Obj) (W : World) : Prop where
  bel : Below V.heap.size V W
  a : ∃ xs, W.ownsRow B1 JT 4 sa na xs
  b : ∃ ys, W.ownsRow B2 JT 4 sb nb ys
  ha : Has W ga oa
  hb : Has W gb ob
  h1 : V.heap.size ≤ B1
  h2 : ga < B2
  h3 : B2 ≤ gb
  h4 : ∀ k, sa.ownBlock = some k → k < ga
  h5 : ∀ k, sb.ownBlock = some k → k < gb
  h6 : V.heap.size ≤ B2
section
variable {V : World} {B1 B2 : Nat} {sa sb : Value} {na nb ga gb : Nat} {oa ob : Obj} {W W' : World}
theorem Two.stepA (h : Two V B1 B2 sa sb na nb ga gb oa ob W) (hg : W.grownBy W' sa.ownBlock) (ho : ∃ xs, W'.ownsRow B1 JT 4 sa na xs) : Two V B1 B2 sa sb na nb ga gb oa ob W' := by
  obtain ⟨xs, hx⟩ := h.a
  obtain ⟨ys, hy⟩ := h.b
  have e1 := h.h1
  have e2 := h.h2
  have e3 := h.h3
  have la := fun k e => (World.ownsRow.lt hx k e).1
  have lb := fun k e => (World.ownsRow.lt hy k e).1
  refine ⟨h.bel.grown hg h.bel.size (fun k e => by have := la k e; omega), ho, ⟨ys, World.ownsRow.kept hy hg ?_⟩, (hg.block ga (has_lt h.ha) (fun e => by have := h.h4 _ e.symm; omega)).trans h.ha, (hg.block gb (has_lt h.hb) (fun e => by have := h.h4 _ e.symm; omega)).trans h.hb, e1, e2, e3, h.h4, h.h5, h.h6⟩
  cases hb : sb.ownBlock with
  | none => exact .inl rfl
  | some k => exact .inr (fun e => by have := lb k hb; have := h.h4 k e.symm; omega)
theorem Two.stepB (h : Two V B1 B2 sa sb na nb ga gb oa ob W) (hg : W.grownBy W' sb.ownBlock) (ho : ∃ xs, W'.ownsRow B2 JT 4 sb nb xs) : Two V B1 B2 sa sb na nb ga gb oa ob W' := by
  obtain ⟨xs, hx⟩ := h.a
  obtain ⟨ys, hy⟩ := h.b
  have e1 := h.h1
  have e2 := h.h2
  have e3 := h.h3
  have la := fun k e => (World.ownsRow.lt hx k e).1
  have lb := fun k e => (World.ownsRow.lt hy k e).1
  have lg := has_lt h.ha
  refine ⟨h.bel.grown hg h.bel.size (fun k e => by have := lb k e; have := h.h6; omega), ⟨xs, World.ownsRow.kept hx hg ?_⟩, ho, (hg.block ga (has_lt h.ha) (fun e => by have := lb _ e.symm; omega)).trans h.ha, (hg.block gb (has_lt h.hb) (fun e => by have := h.h5 _ e.symm; omega)).trans h.hb, e1, e2, e3, h.h4, h.h5, h.h6⟩
  cases hb : sa.ownBlock with
  | none => exact .inl rfl
  | some k => exact .inr (fun e => by have := h.h4 k hb; have := lb k e.symm; omega)
end
theorem row_at {B e z n : Nat} {W : World} {s : Option Addr} {c : Nat} (h : ∃ xs, W.ownsRow B e z (.slice s n c) n xs) {j : Nat} (hj : j < n * z) (hn : 0 < n) : ∃ g, s = some ⟨g, 0, none⟩ ∧ (∃ u, W.cell? ⟨g, j, none⟩ = some u) ∧ W.frozen? ⟨g, j, none⟩ = false ∧ ∀ u, W.grownBy (W.setCell ⟨g, j, none⟩ u) (Value.slice s n c).ownBlock ∧ ∃ xs, (W.setCell ⟨g, j, none⟩ u).ownsRow B e z (.slice s n c) n xs := by
  obtain ⟨xs, hx⟩ := h
  obtain ⟨g, c', e1, _⟩ := own_block2 hx hn
  cases e1
  refine ⟨g, rfl, ⟨xs[j]'(by rw [hx.1]; exact hj), ?_⟩, World.ownsRow.frozenAt hx j, fun u => ⟨(World.ownsRow.stored hx j u).2, _, (World.ownsRow.stored hx j u).1⟩⟩
  rw [World.ownsRow.cellAt hx j hj, List.getElem?_eq_getElem]
/-- Push gives a row of its own; both pushes answer alike. -/
theorem push_own (p : Int) (n : Nat) (f : Nat → Jb) (k : Ac) (j : Jb) (now : Int) (hc : k.c ≤ 9223372036854775807) :
    ∃ P N F K E, (∀ (w : World) (s : Value), Jobs w s n f → Calls Tryd.prog 22 #[tV p s k, jV j, .int .i64 now] w fun e w' => ∃ t c, e = .returned (.tuple #[tV P (.slice t N c) K, errV E]) ∧ JobsO w.heap.size w' (.slice t N c) N F ∧ Below w.heap.size w w') ∧
      (∀ (w : World) (s : Value), Jobs w s n f → Calls Tryd.prog 23 #[tV p s k, jV j, .int .i64 now] w fun e w' => ∃ t c, e = .returned (.tuple #[tV P (.slice t N c) K, .int .i64 E]) ∧ JobsO w.heap.size w' (.slice t N c) N F ∧ Below w.heap.size w w') ∧ N ≤ 8 := by
  have hN : (if pushE p n f k j now = 0 then n + 1 else 0) ≤ 8 := by
    split
    · next h => unfold pushE at h; (repeat' split at h) <;> omega
    · omega
  refine ⟨if pushE p n f k j now = 0 then p else 0, if pushE p n f k j now = 0 then n + 1 else 0, upd f n ⟨j.l, j.c, now, j.d⟩, if pushE p n f k j now = 0 then k else kZ, pushE p n f k j now, fun w s h => ?_, fun w s h => ?_, hN⟩
  · exact (ppush_any p s n f k j now w h hc).mono fun e w' ⟨x, he, t, c, hx, ho, hb⟩ => ⟨t, c, by rw [he, hx], ho, hb⟩
  · exact (rpush_any p s n f k j now w h).mono fun e w' ⟨x, he, t, c, hx, ho, hb⟩ => ⟨t, c, by rw [he, hx], ho, hb⟩
/-- Run gives a row of its own. -/
theorem run_own (p : Int) (n : Nat) (f : Nat → Jb) (k : Ac) (now : Int) (hc : k.c ≤ 9223372036854775807) :
    ∃ P N F K X L E, (∀ (w : World) (s : Value), Jobs w s n f → Calls Tryd.prog 24 #[tV p s k, .int .i64 now] w fun e w' => ∃ t c, e = .returned (.tuple #[tV P (.slice t N c) K, .int .i64 X, .int .i64 L, errV E]) ∧ JobsO w.heap.size w' (.slice t N c) N F ∧ Below w.heap.size w w') ∧ 0 ≤ E ∧ N ≤ n := by
  have hE : 0 ≤ runE p n f k now := by unfold runE; (repeat' split) <;> omega
  refine ⟨if runE p n f k now = 0 then p else 0, if runE p n f k now = 0 then runN n (f 0) else 0, runF f, if runE p n f k now = 0 then runK k (f 0) now else kZ, if runE p n f k now = 0 then runW (f 0) else 0, if runE p n f k now = 0 then runL (f 0) now else 0, runE p n f k now, fun w s h => ?_, hE, by unfold runN; (repeat' split) <;> omega⟩
  exact (prun_any p s n f k now w h hc).mono fun e w' ⟨x, he, t, c, hx, ho, hb⟩ => ⟨t, c, by rw [he, hx], ho, hb⟩
set_option maxHeartbeats 8000000 in
set_option maxRecDepth 100000 in
theorem own_any (p : Int) (s : Value) (n : Nat) (f : Nat → Jb) (k : Ac) (j : Jb) (now : Int) (w : World) (hg : LaidAt w) (h : Jobs w s n f) (hc : k.c ≤ 9223372036854775807) (hn : n * 32 ≤ 140737488355328) :
    Calls Tryd.prog 9 #[tV p s k, jV j, .int .i64 now] w fun e w' => e = .returned (.bool true) ∧ Below w.heap.size w w' := by
  obtain ⟨i0, hi0, hz0, hz1, hz2⟩ := info_parts Tryd.infJb
  obtain ⟨P, N, F, K, E, hp, hr, hN⟩ := push_own p n f k j now hc
  obtain ⟨P2, M, F2, L, X, Y, E2, hq, hE2, hM⟩ := run_own p n f k now hc
  obtain ⟨ev, hev⟩ : ∃ ev, ev = errV E2 := ⟨_, rfl⟩
  have HNUM := Lib.hid (show ∀ W : World, Calls Tryd.prog 13 #[ev] W fun e w' => e = .returned (.int .i64 E2) ∧ W = w' from fun W => by rw [hev]; exact num_errV E2 W)
  simp only [← hev] at hq
  have HEV := Lib.hid hev
  clear hev
  obtain ⟨ew, hew⟩ : ∃ ew, ew = errV E := ⟨_, rfl⟩
  have HNE := Lib.hid (show ∀ W : World, Calls Tryd.prog 13 #[ew] W fun e w' => e = .returned (.int .i64 E) ∧ W = w' from fun W => by rw [hew]; exact num_errV E W)
  simp only [← hew] at hp
  clear hew
  have HP := Lib.hid hp
  have HR := Lib.hid hr
  have HQ := Lib.hid hq
  have HJ := Lib.hid h
  have HTW := Lib.hid (fun (W : World) (hb : Below w.heap.size w W) => twin_j p s n f k W (h.below hb) hn)
  have HWK := Lib.hid (fun (W : World) (hb : Below w.heap.size w W) => works_any W (hg.below hb))
  obtain ⟨q, cap, rfl, _, _⟩ := h
  obtain ⟨kg, ko, kn, kd, kc, kt⟩ := k
  obtain ⟨jl, jc, ja, jd⟩ := j
  obtain ⟨Kg, Ko, Kn, Kd, Kc, Kt⟩ := K
  obtain ⟨Lg, Lo, Ln, Ld, Lc, Lt⟩ := L
  clear hp hr hq hg hc hn
  obtain ⟨WA, hWA⟩ : ∃ WA, WA = (w.alloc (.cells #[.int .i64 p, .slice q n cap, .int .i64 kg, .int .i64 ko, .int .i64 kn, .int .i64 kd, .int .i64 kc, .int .i64 kt] KT)).alloc (.cells #[.int .i64 jl, .int .i64 jc, .int .i64 ja, .int .i64 jd] JT) := ⟨_, rfl⟩
  have HB := Lib.hid (show Below w.heap.size w WA from by rw [hWA]; exact ((Below.refl _ _).alloc (Nat.le_refl _) _).alloc (by simp) _)
  have HT := Lib.hid (show HasT WA w.heap.size p (.slice q n cap) ⟨kg, ko, kn, kd, kc, kt⟩ ∧ HasJ WA (w.heap.size + 1) ⟨jl, jc, ja, jd⟩ from by rw [hWA]; exact ⟨has_old (has_new w _ _ rfl) _, has_new _ _ _ (by simp)⟩)
  have HW := Lib.hid hWA
  clear hWA
  go_enter Tryd.func9, Tryd.ntmps9
  go_wp2_with fail
  rw [← HW.out]
  refine (HTW.out WA HB.out).mono ?_
  rintro e w1 ⟨sm, cm, rfl, hjm, hb1⟩
  obtain ⟨W1, hW1⟩ : ∃ W1, W1 = w1.alloc (.cells #[.int .i64 p, .slice sm n cm, .int .i64 kg, .int .i64 ko, .int .i64 kn, .int .i64 kd, .int .i64 kc, .int .i64 kt] KT) := ⟨_, rfl⟩
  have hbw1 : Below WA.heap.size WA W1 := by rw [hW1]; exact hb1.alloc hb1.size _
  have HB1 := Lib.hid (bnext HB.out hbw1)
  have HT1 := Lib.hid (show HasT W1 w.heap.size p (.slice q n cap) ⟨kg, ko, kn, kd, kc, kt⟩ ∧ HasJ W1 (w.heap.size + 1) ⟨jl, jc, ja, jd⟩ ∧ HasT W1 w1.heap.size p (.slice sm n cm) ⟨kg, ko, kn, kd, kc, kt⟩ from ⟨HT.out.1.below hbw1, HT.out.2.below hbw1, by rw [hW1]; exact hasT_new _ _ _ ⟨kg, ko, kn, kd, kc, kt⟩⟩)
  have HJ1 := Lib.hid (show Jobs W1 (.slice sm n cm) n f from by rw [hW1]; exact hjm.below ((Below.refl _ _).alloc (Nat.le_refl _) _))
  have HW1 := Lib.hid hW1
  have hs1 : W1.heap.size = w1.heap.size + 1 := by rw [hW1]; simp
  have HS1 := Lib.hid hs1
  obtain ⟨j0, j1, j2, j3⟩ := (HT.out.2.below hb1).cells
  have hjl : w.heap.size + 1 < w1.heap.size := has_lt (HT.out.2.below hb1)
  clear hW1 hb1 hbw1 hjm hs1
  go_wp2_with fail
  rw [← HW1.out]
  refine (HP.out W1 _ HJ1.out).mono ?_
  rintro e w2 ⟨sa, ca, rfl, hja, hb2⟩
  clear j0 j1 j2 j3 hjl
  obtain ⟨W2, hW2⟩ : ∃ W2, W2 = w2.alloc (.cells #[.int .i64 P, .slice sa N ca, .int .i64 Kg, .int .i64 Ko, .int .i64 Kn, .int .i64 Kd, .int .i64 Kc, .int .i64 Kt] KT) := ⟨_, rfl⟩
  have hbw2 : Below W1.heap.size W1 W2 := by rw [hW2]; exact hb2.alloc hb2.size _
  have HB2 := Lib.hid hbw2
  have HT2 := Lib.hid (show (HasT W2 w.heap.size p (.slice q n cap) ⟨kg, ko, kn, kd, kc, kt⟩ ∧ HasT W2 w1.heap.size p (.slice sm n cm) ⟨kg, ko, kn, kd, kc, kt⟩) ∧ HasT W2 w2.heap.size P (.slice sa N ca) ⟨Kg, Ko, Kn, Kd, Kc, Kt⟩ from ⟨⟨HT1.out.1.below hbw2, HT1.out.2.2.below hbw2⟩, by rw [hW2]; exact hasT_new _ _ _ ⟨Kg, Ko, Kn, Kd, Kc, Kt⟩⟩)
  have HO2 := Lib.hid (show W2.ownsRow W1.heap.size JT 4 (.slice sa N ca) N (jbL F N) ∧ (∀ k, (Value.slice sa N ca).ownBlock = some k → k < w2.heap.size) ∧ W2.heap.size = w2.heap.size + 1 from by rw [hW2]; exact ⟨World.ownsRow.alloc hja _, fun k e => (World.ownsRow.lt hja k e).2, by simp⟩)
  have HJ2 := Lib.hid (HJ1.out.below hbw2)
  have HW2 := Lib.hid hW2
  obtain ⟨m0, m1, m2, m3, m4, m5, m6, m7⟩ := (HT1.out.2.2.below hb2).cells
  have hml : w1.heap.size < w2.heap.size := has_lt (HT1.out.2.2.below hb2)
  clear hW2 hb2 hbw2 hja
  go_wp2_with fail
  rw [← HW2.out]
  refine (HQ.out W2 _ HJ2.out).mono ?_
  rintro e w3 ⟨sb, cb, rfl, hjb, hb3⟩
  clear m0 m1 m2 m3 m4 m5 m6 m7 hml
  obtain ⟨W3, hW3⟩ : ∃ W3, W3 = w3.alloc (.cells #[.int .i64 P2, .slice sb M cb, .int .i64 Lg, .int .i64 Lo, .int .i64 Ln, .int .i64 Ld, .int .i64 Lc, .int .i64 Lt] KT) := ⟨_, rfl⟩
  have hbw3 : Below W2.heap.size W2 W3 := by rw [hW3]; exact hb3.alloc hb3.size _
  obtain ⟨TW, hTW⟩ : ∃ TW : World → Prop, TW = Two W1 W1.heap.size W2.heap.size (.slice sa N ca) (.slice sb M cb) N M w2.heap.size w3.heap.size (.cells #[.int .i64 P, .slice sa N ca, .int .i64 Kg, .int .i64 Ko, .int .i64 Kn, .int .i64 Kd, .int .i64 Kc, .int .i64 Kt] KT (0, 0)) (.cells #[.int .i64 P2, .slice sb M cb, .int .i64 Lg, .int .i64 Lo, .int .i64 Ln, .int .i64 Ld, .int .i64 Lc, .int .i64 Lt] KT (0, 0)) := ⟨_, rfl⟩
  have HTW3 := Lib.hid (show TW W3 from by
    rw [hTW]
    exact ⟨bnext HB2.out hbw3, ⟨_, own_under HO2.out.1 hbw3⟩, ⟨_, by rw [hW3]; exact World.ownsRow.alloc hjb _⟩, HT2.out.2.below hbw3, by rw [hW3]; exact hasT_new _ _ _ ⟨Lg, Lo, Ln, Ld, Lc, Lt⟩, Nat.le_refl _, by have := HO2.out.2.2; omega, hb3.size, HO2.out.2.1, fun k e => (World.ownsRow.lt hjb k e).2, HB2.out.size⟩)
  have HTWu := Lib.hid (show ∀ W, TW W → Two W1 W1.heap.size W2.heap.size (.slice sa N ca) (.slice sb M cb) N M w2.heap.size w3.heap.size (.cells #[.int .i64 P, .slice sa N ca, .int .i64 Kg, .int .i64 Ko, .int .i64 Kn, .int .i64 Kd, .int .i64 Kc, .int .i64 Kt] KT (0, 0)) (.cells #[.int .i64 P2, .slice sb M cb, .int .i64 Lg, .int .i64 Lo, .int .i64 Ln, .int .i64 Ld, .int .i64 Lc, .int .i64 Lt] KT (0, 0)) W from fun W h => by rw [hTW] at h; exact h)
  have HTWa := Lib.hid (show ∀ W, TW W → HasT W w2.heap.size P (.slice sa N ca) ⟨Kg, Ko, Kn, Kd, Kc, Kt⟩ from fun W h => by rw [hTW] at h; exact h.ha)
  have HTWb := Lib.hid (show ∀ W, TW W → HasT W w3.heap.size P2 (.slice sb M cb) ⟨Lg, Lo, Ln, Ld, Lc, Lt⟩ from fun W h => by rw [hTW] at h; exact h.hb)
  have HTWA := Lib.hid (show ∀ W, TW W → ∀ j, j < N * 4 → ∃ g, sa = some ⟨g, 0, none⟩ ∧ (∃ u, W.cell? ⟨g, j, none⟩ = some u) ∧ W.frozen? ⟨g, j, none⟩ = false ∧ ∀ u, TW (W.setCell ⟨g, j, none⟩ u) from fun W h j hj => by
    rw [hTW] at h ⊢
    obtain ⟨g, e, h1, h2, h3⟩ := row_at h.a hj (by omega)
    exact ⟨g, e, h1, h2, fun u => h.stepA (h3 u).1 (h3 u).2⟩)
  have HTWB := Lib.hid (show ∀ W, TW W → ∀ j, j < M * 4 → ∃ g, sb = some ⟨g, 0, none⟩ ∧ (∃ u, W.cell? ⟨g, j, none⟩ = some u) ∧ W.frozen? ⟨g, j, none⟩ = false ∧ ∀ u, TW (W.setCell ⟨g, j, none⟩ u) from fun W h j hj => by
    rw [hTW] at h ⊢
    obtain ⟨g, e, h1, h2, h3⟩ := row_at h.b hj (by omega)
    exact ⟨g, e, h1, h2, fun u => h.stepB (h3 u).1 (h3 u).2⟩)
  have HW3 := Lib.hid hW3
  clear hTW hW3 hb3 hbw3 hjb
  go_wp2_with fail
  rw [← HW3.out]
  go_loopw [14] (fun iv wr => ∃ i : Nat, iv = .int .i64 i ∧ i ≤ N ∧ Hid (TW wr)) (fun iv _ => N - (intOf iv).toNat)
  case atStart => exact ⟨0, rfl, Nat.zero_le _, HTW3⟩
  case round =>
    obtain ⟨i, rfl, hi, HZ⟩ := hrel
    obtain ⟨y0, y1, y2, y3, y4, y5, y6, y7⟩ := (HTWa.out _ HZ.out).cells
    by_cases him : i < N
    · have him' : (i : Int) < (N : Int) := by omega
      obtain ⟨g, rfl, ⟨u, hu⟩, hf, hnext⟩ := HTWA.out _ HZ.out (i * 4) (by omega)
      have HN := Lib.hid (hnext (.int .i64 (-7)))
      clear hnext
      go_wp2_with fail
      go_roundw
      case rel => exact ⟨i + 1, by go_num, by omega, HN⟩
      case measure => simp [intOf]; omega
    · have hg3 : decide (i < N) = false := decide_eq_false him
      obtain rfl : N = i := by omega
      clear him
      have HRA := Lib.hid HZ.out
      go_wp2_with fail
      go_loopw [15] (fun iv wr => ∃ i : Nat, iv = .int .i64 i ∧ i ≤ M ∧ Hid (TW wr)) (fun iv _ => M - (intOf iv).toNat)
      case atStart => exact ⟨0, rfl, Nat.zero_le _, HRA⟩
      case round =>
        obtain ⟨i, rfl, hi, HZ⟩ := hrel
        obtain ⟨y0, y1, y2, y3, y4, y5, y6, y7⟩ := (HTWb.out _ HZ.out).cells
        by_cases him : i < M
        · have him' : (i : Int) < (M : Int) := by omega
          obtain ⟨g, rfl, ⟨u, hu⟩, hf, hnext⟩ := HTWB.out _ HZ.out (i * 4 + 1) (by omega)
          have HN := Lib.hid (hnext (.int .i64 (-7)))
          clear hnext
          go_wp2_with fail
          go_roundw
          case rel => exact ⟨i + 1, by go_num, by omega, HN⟩
          case measure => simp [intOf]; omega
        · have hg3 : decide (i < M) = false := decide_eq_false him
          obtain rfl : M = i := by omega
          clear him
          obtain ⟨z0, z1, z2, z3, z4, z5, z6, z7⟩ := (HTWa.out _ HZ.out).cells
          have hs0 := (HTWu.out _ HZ.out).bel.size
          have HU := Lib.hid (HTWu.out _ HZ.out)
          clear HTWA HTWB
          obtain ⟨xs, hxs⟩ := HU.out.a
          have HXS := Lib.hid hxs
          clear hxs
          go_wp2_with (at_builtin; refine wpList_append_own_at _ rfl _ _ 22 rfl W1.heap.size JT i0 (.agg #[.int .i64 0, .int .i64 0, .int .i64 0, .int .i64 0]) 4 32 Tryd.underlying22 hi0 hz0 hz1 hz2 rfl (by decide) (.slice sa N ca) N xs rfl (World.ownsRow.alloc HXS.out _) ⟨wr.heap.size, 0, none⟩ 2 2 [.int .i64 0, .int .i64 0, .int .i64 0, .int .i64 0, .int .i64 0, .int .i64 0, .int .i64 0, .int .i64 0] rfl rfl (World.news_of_block (heap_alloc_new _ _)) (by simp [Value.oneCell']) (by unfold maxLen; omega) (by omega) (by simp; omega) ?_)
          intro v3 wp ho3 hg3 _ _
          obtain ⟨p3, c3, rfl, _⟩ := own_small ho3
          have hrow : ∀ k, (Value.slice sa N ca).ownBlock = some k → W1.heap.size ≤ k ∧ k < w2.heap.size := fun k e => ⟨(World.ownsRow.lt HXS.out k e).1, HU.out.h4 k e⟩
          have HB5 := Lib.hid (show Below W1.heap.size W1 wp from (HU.out.bel.alloc HU.out.bel.size _).grown hg3 (by simp; omega) (fun k e => (hrow k e).1))
          have HT5 := Lib.hid (show HasT wp w.heap.size p (.slice q n cap) ⟨kg, ko, kn, kd, kc, kt⟩ ∧ HasJ wp (w.heap.size + 1) ⟨jl, jc, ja, jd⟩ ∧ HasT wp w1.heap.size p (.slice sm n cm) ⟨kg, ko, kn, kd, kc, kt⟩ ∧ HasT wp w2.heap.size P (.slice sa N ca) ⟨Kg, Ko, Kn, Kd, Kc, Kt⟩ from ⟨HT1.out.1.below HB5.out, HT1.out.2.1.below HB5.out, HT1.out.2.2.below HB5.out, (hg3.block _ (has_lt (has_old HU.out.ha _)) (fun e => by have := (hrow _ e.symm).2; omega)).trans (has_old HU.out.ha _)⟩)
          have HJ5 := Lib.hid (HJ1.out.below HB5.out)
          clear ho3 hg3 hrow y0 y1 y2 y3 y4 y5 y6 y7 z0 z1 z2 z3 z4 z5 z6 z7 HXS HU HTWa HTWb HTWu HB2 HO2 HW3
          obtain ⟨m0, m1, m2, m3, m4, m5, m6, m7⟩ := HT5.out.2.2.1.cells
          obtain ⟨j0, j1, j2, j3⟩ := HT5.out.2.1.cells
          go_wp2_with fail
          refine (HP.out _ _ HJ5.out).mono ?_
          rintro e w6 ⟨sd, cd, rfl, hjd, hb6⟩
          clear j0 j1 j2 j3 m0 m1 m2 m3 m4 m5 m6 m7
          obtain ⟨W6, hW6⟩ : ∃ W6, W6 = w6.alloc (.cells #[.int .i64 P, .slice sd N cd, .int .i64 Kg, .int .i64 Ko, .int .i64 Kn, .int .i64 Kd, .int .i64 Kc, .int .i64 Kt] KT) := ⟨_, rfl⟩
          have hbw6 : Below wp.heap.size wp W6 := by rw [hW6]; exact hb6.alloc hb6.size _
          have HB6 := Lib.hid (bnext (bnext HB1.out HB5.out) hbw6)
          have HT6 := Lib.hid (show (HasT W6 w.heap.size p (.slice q n cap) ⟨kg, ko, kn, kd, kc, kt⟩ ∧ HasT W6 w1.heap.size p (.slice sm n cm) ⟨kg, ko, kn, kd, kc, kt⟩ ∧ HasT W6 w2.heap.size P (.slice sa N ca) ⟨Kg, Ko, Kn, Kd, Kc, Kt⟩) ∧ HasT W6 w6.heap.size P (.slice sd N cd) ⟨Kg, Ko, Kn, Kd, Kc, Kt⟩ from ⟨⟨HT5.out.1.below hbw6, HT5.out.2.2.1.below hbw6, HT5.out.2.2.2.below hbw6⟩, by rw [hW6]; exact hasT_new _ _ _ ⟨Kg, Ko, Kn, Kd, Kc, Kt⟩⟩)
          have HJ6 := Lib.hid (show Jobs W6 (.slice sd N cd) N F ∧ Jobs W6 (.slice sm n cm) n f from ⟨by rw [hW6]; exact (own_jobs hjd (by omega)).below ((Below.refl _ _).alloc (Nat.le_refl _) _), HJ5.out.below hbw6⟩)
          have HW6 := Lib.hid hW6
          obtain ⟨t0, t1, t2, t3, t4, t5, t6, t7⟩ := (HT5.out.1.below hb6).cells
          obtain ⟨j0, j1, j2, j3⟩ := (HT5.out.2.1.below hb6).cells
          have htl : w.heap.size < w6.heap.size := has_lt (HT5.out.1.below hb6)
          have hjl2 : w.heap.size + 1 < w6.heap.size := has_lt (HT5.out.2.1.below hb6)
          clear hW6 hb6 hbw6 hjd
          go_wp2_with fail
          rw [← HW6.out]
          refine (HR.out W6 _ (HJ.out.below HB6.out)).mono ?_
          rintro e w7 ⟨se, ce, rfl, hje, hb7⟩
          clear j0 j1 j2 j3 t0 t1 t2 t3 t4 t5 t6 t7 htl hjl2
          obtain ⟨W7, hW7⟩ : ∃ W7, W7 = w7.alloc (.cells #[.int .i64 P, .slice se N ce, .int .i64 Kg, .int .i64 Ko, .int .i64 Kn, .int .i64 Kd, .int .i64 Kc, .int .i64 Kt] KT) := ⟨_, rfl⟩
          have hbw7 : Below W6.heap.size W6 W7 := by rw [hW7]; exact hb7.alloc hb7.size _
          have HB7 := Lib.hid (bnext HB6.out hbw7)
          have HT7 := Lib.hid (show (HasT W7 w2.heap.size P (.slice sa N ca) ⟨Kg, Ko, Kn, Kd, Kc, Kt⟩ ∧ HasT W7 w6.heap.size P (.slice sd N cd) ⟨Kg, Ko, Kn, Kd, Kc, Kt⟩) ∧ HasT W7 w7.heap.size P (.slice se N ce) ⟨Kg, Ko, Kn, Kd, Kc, Kt⟩ from ⟨⟨HT6.out.1.2.2.below hbw7, HT6.out.2.below hbw7⟩, by rw [hW7]; exact hasT_new _ _ _ ⟨Kg, Ko, Kn, Kd, Kc, Kt⟩⟩)
          have HJ7 := Lib.hid (show Jobs W7 (.slice sd N cd) N F ∧ Jobs W7 (.slice sm n cm) n f ∧ Jobs W7 (.slice se N ce) N F from ⟨HJ6.out.1.below hbw7, HJ6.out.2.below hbw7, by rw [hW7]; exact (own_jobs hje (by omega)).below ((Below.refl _ _).alloc (Nat.le_refl _) _)⟩)
          have HW7 := Lib.hid hW7
          obtain ⟨t0, t1, t2, t3, t4, t5, t6, t7⟩ := (HT6.out.1.1.below hb7).cells
          obtain ⟨m0, m1, m2, m3, m4, m5, m6, m7⟩ := (HT6.out.1.2.1.below hb7).cells
          have htl : w.heap.size < w7.heap.size := has_lt (HT6.out.1.1.below hb7)
          have hml : w1.heap.size < w7.heap.size := has_lt (HT6.out.1.2.1.below hb7)
          clear hW7 hb7 hbw7 hje
          go_wp2_with fail
          rw [← HW7.out]
          refine (same_true p (.slice sm n cm) (.slice q n cap) n f ⟨kg, ko, kn, kd, kc, kt⟩ W7 HJ7.out.2.1 (HJ.out.below HB7.out)).mono ?_
          rintro e w8 ⟨rfl, hb8⟩
          have HB8 := Lib.hid (bnext HB7.out hb8)
          have HJ8 := Lib.hid (show Jobs w8 (.slice sd N cd) N F ∧ Jobs w8 (.slice se N ce) N F from ⟨HJ7.out.1.below hb8, HJ7.out.2.2.below hb8⟩)
          have HT8 := Lib.hid (HT7.out.1.1.below hb8)
          clear t0 t1 t2 t3 t4 t5 t6 t7 m0 m1 m2 m3 m4 m5 m6 m7 htl hml
          obtain ⟨t0, t1, t2, t3, t4, t5, t6, t7⟩ := (HT7.out.1.2.below hb8).cells
          obtain ⟨m0, m1, m2, m3, m4, m5, m6, m7⟩ := (HT7.out.2.below hb8).cells
          clear hb8
          go_wp2_with fail
          refine (same_true P (.slice sd N cd) (.slice se N ce) N F ⟨Kg, Ko, Kn, Kd, Kc, Kt⟩ w8 HJ8.out.1 HJ8.out.2).mono ?_
          rintro e w9 ⟨rfl, hb9⟩
          have HB9 := Lib.hid (bnext HB8.out hb9)
          clear t0 t1 t2 t3 t4 t5 t6 t7 m0 m1 m2 m3 m4 m5 m6 m7
          obtain ⟨t0, t1, t2, t3, t4, t5, t6, t7⟩ := (HT8.out.below hb9).cells
          clear hb9
          have HWN := Lib.hid (HWK.out _ HB9.out)
          by_cases he0 : E2 = 0
          · have hev2 := HEV.out
            rw [he0, errV_0] at hev2
            subst hev2
            clear HNUM HEV
            go_wp2_with (go_at_call 13; refine (HNE.out _).mono ?_; rintro e w9 ⟨rfl, rfl⟩)
            refine HWN.out.mono ?_
            rintro e wf ⟨rfl, hbf⟩
            have HBF := Lib.hid (bnext HB9.out hbf)
            clear hbf
            go_wp2_with fail
            go_ret
            exact ⟨rfl, HBF.out⟩
          · have hev2 := HEV.out
            rw [errV_ne he0] at hev2
            subst hev2
            have hE3 : 0 < E2 := by omega
            clear HEV
            go_wp2_with (go_at_call 13; (first | with_reducible refine (HNE.out _).mono ?_ | with_reducible refine (HNUM.out _).mono ?_); rintro e w9 ⟨rfl, rfl⟩)
            refine HWN.out.mono ?_
            rintro e wf ⟨rfl, hbf⟩
            have HBF := Lib.hid (bnext HB9.out hbf)
            clear hbf
            go_wp2_with fail
            go_ret
            exact ⟨rfl, HBF.out⟩
end Go.Proofs.YtpfhebfkhailfaaDoor
