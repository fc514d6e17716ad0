/- The program's Drop and Pop of a queue of jobs; no condition but those that each row names. -/
import Derived.Test.YtpfhebfkhailfaaDoorUQPush
import Derived.Test.YtpfhebfkhailfaaDoorUQDel
namespace Go.Proofs.YtpfhebfkhailfaaDoor
open Go.RowKit Tsk

/-- A job's block. -/
def HasJ0 (W : World) (g : Nat) (j : Jb) : Prop := Has W g (.cells #[.int .i64 j.l, .int .i64 j.c, .int .i64 j.a, .int .i64 j.d] JT (0, 0))
theorem HasJ0.cells {W : World} {g : Nat} {j : Jb} (h : HasJ0 W g j) : W.cell? ⟨g, 0, none⟩ = some (.int .i64 j.l) ∧ W.cell? ⟨g, 1, none⟩ = some (.int .i64 j.c) ∧ W.cell? ⟨g, 2, none⟩ = some (.int .i64 j.a) ∧ W.cell? ⟨g, 3, none⟩ = some (.int .i64 j.d) :=
  ⟨(has_cell h 0).trans rfl, (has_cell h 1).trans rfl, (has_cell h 2).trans rfl, (has_cell h 3).trans rfl⟩
theorem HasJ0.keeps {S : Nat → Prop} {W W' : World} {g : Nat} {j : Jb} (h : HasJ0 W g j) (hk : Keeps S W W') (hn : ¬ S g) : HasJ0 W' g j := (hk.block g (has_lt h) hn).trans h
def DropPost_J (B : Nat) (w : World) (A : Qu) (b : Nat) (s : Value) (v : Value) (e : Ending) (w' : World) : Prop :=
  e = .returned v ∧ ∃ s', PQ QT_J ET_J 4 B w' A b s' ∧ Keeps (fun x => x = b ∨ s.ownBlock = some x) w w' ∧ s'.ownBlock = s.ownBlock
/-- Stores into a block that is newer than all that is spoken of. -/
theorem PQ.aside {B : Nat} {w : World} {A : Qu} {b : Nat} {s : Value} (h : PQ QT_J ET_J 4 B w A b s) {p : Addr} {u : Value} (h1 : p.block ≠ b) (h2 : s.ownBlock ≠ some p.block) : PQ QT_J ET_J 4 B (w.setCell p u) A b s :=
  h.keeps (S := fun x => x = p.block) ((Keeps.refl _ w).setCell p u (.inl rfl)) (fun e => h1 e.symm) (fun _ e e2 => h2 (e2 ▸ e))

set_option maxHeartbeats 1000000 in
set_option maxRecDepth 100000 in
theorem drop_yes_J (B : Nat) (A : Qu) (hA : A.Good 4) (w : World) (b : Nat) (s : Value) (h : PQ QT_J ET_J 4 B w A b s) (i : Nat) (hi : i < A.l.length) (x : Jb) (hv : A.l[i].1 = (.agg #[.int .i64 x.l, .int .i64 x.c, .int .i64 x.a, .int .i64 x.d])) :
    Calls Tryd.prog 69 #[.pointer (some ⟨b, 0, none⟩), .int .i64 i] w (DropPost_J B w (A.drop i) b s (.tuple #[(.agg #[.int .i64 x.l, .int .i64 x.c, .int .i64 x.a, .int .i64 x.d]), .nilIface])) := by
  have n4 := hA.n4
  obtain ⟨g, cap, hs, hBg, hglt, hgb⟩ := h.form (by omega)
  have HD := Lib.hid (fun w1 (h1 : PQ QT_J ET_J 4 B w1 A b s) => delete_J w1 B g cap A.l.length i (i + 1) rfl A.l hA.wd rfl hi n4 (hs ▸ h1.own))
  have HP := Lib.hid h
  have hlt := h.lt
  have HS := Lib.hid hs
  have HT := Lib.hid (at_yes_J B A hA (w.alloc (.cells #[.int .i64 0, .int .i64 0, .int .i64 0, .int .i64 0] JT)) b s (h.alloc _) i hi x hv)
  have HB0 := Lib.hid (show Below w.heap.size w (w.alloc (.cells #[.int .i64 0, .int .i64 0, .int .i64 0, .int .i64 0] JT)) from (Below.refl _ w).alloc (Nat.le_refl _) _)
  have H0 := Lib.hid (has_new w (.cells #[.int .i64 0, .int .i64 0, .int .i64 0, .int .i64 0] JT) _ rfl)
  clear h hA hv hs
  go_enter Tryd.func69, Tryd.ntmps69
  go_wp2_with fail
  refine HT.out.mono ?_
  rintro e w1 ⟨rfl, hb1⟩
  obtain ⟨WA, hWA⟩ : ∃ WA, WA = w1.alloc (.cells #[.int .i64 x.l, .int .i64 x.c, .int .i64 x.a, .int .i64 x.d] JT) := ⟨_, rfl⟩
  have hlw : w.heap.size + 1 ≤ w1.heap.size := by have := hb1.size; simpa using this
  have HJ := Lib.hid (show HasJ0 WA w1.heap.size x ∧ HasJ0 WA w.heap.size ⟨0, 0, 0, 0⟩ from by
    rw [hWA]
    exact ⟨has_new _ _ _ rfl, has_old ((hb1.block _ (by simp)).trans H0.out) _⟩)
  have hba : Below w.heap.size w WA := by rw [hWA]; exact (bnext HB0.out hb1).alloc (by omega) _
  have HB := Lib.hid hba
  have h1 := HP.out.below hba
  have f1 := (HP.out.below (bnext HB0.out hb1)).f1
  rw [HS.out] at f1
  have hbl := (HP.out.below (bnext HB0.out hb1)).lt
  have HP1 := Lib.hid h1
  have HW := Lib.hid hWA
  clear h1 hba hWA
  go_wp2_with fail
  rw [← HW.out]
  refine (HD.out _ HP1.out).mono ?_
  rintro e w2 ⟨rfl, hown, hk⟩
  have hk' : Keeps (fun x => s.ownBlock = some x) WA w2 := hk.mono (fun x e => by subst e; rw [HS.out]; rfl)
  obtain ⟨c1, z1⟩ := HP1.out.relaid_cell hk'
  have hel : (A.l.eraseIdx i).length = A.l.length - 1 := by rw [List.length_eraseIdx, if_pos hi]
  have hq := HP1.out.relaid (l' := A.l.eraseIdx i) (s' := .slice (some ⟨g, 0, none⟩) (A.l.length - 1) cap) hk' (by rw [hel]; exact hown) (by rw [HS.out]; rfl)
  have HQ := Lib.hid hq
  have HK := Lib.hid (show Keeps (fun x => s.ownBlock = some x) w w2 from ((Keeps.of_below (S := fun x => s.ownBlock = some x) HB.out)).trans hk')
  obtain ⟨j0, j1, j2, j3⟩ := (HasJ0.keeps HJ.out.1 hk (by omega)).cells
  obtain ⟨y0, y1, y2, y3⟩ := (HasJ0.keeps HJ.out.2 hk (by omega)).cells
  have yf := fun j => has_free (HasJ0.keeps HJ.out.2 hk (by omega)) j
  have e1 : ¬ w.heap.size = b := by omega
  have e2 : ¬ b = w.heap.size := by omega
  have e3 : ¬ w1.heap.size = b := by omega
  clear hq hk hk' hel hown
  go_wp2_with fail
  refine bodyPost_ret (v := .tuple #[.agg #[.int .i64 x.l, .int .i64 x.c, .int .i64 x.a, .int .i64 x.d], .nilIface]) (by simp [results, Tryd.results69, go_sem, y0, y1, y2, y3]) rfl ⟨rfl, .slice (some ⟨g, 0, none⟩) (A.l.length - 1) cap, ?_, ?_, by rw [HS.out]; rfl⟩
  · iterate 4 refine PQ.aside ?_ (by show w.heap.size ≠ b; omega) (by simp [Value.ownBlock]; omega)
    exact HQ.out
  · iterate 4 refine Keeps.setCell ?_ _ _ (.inr (Nat.le_refl _))
    exact (HK.out.mono (fun _ => .inr)).setCell _ _ (.inl (.inl rfl))
theorem pop_of_J (B : Nat) (A' : Qu) (x : Jb) (w : World) (b : Nat) (s : Value) (A : Qu) (h : PQ QT_J ET_J 4 B w A b s) (H : ∀ w1, PQ QT_J ET_J 4 B w1 A b s → Calls Tryd.prog 69 #[.pointer (some ⟨b, 0, none⟩), .int .i64 0] w1 (DropPost_J B w1 A' b s (.tuple #[(.agg #[.int .i64 x.l, .int .i64 x.c, .int .i64 x.a, .int .i64 x.d]), .nilIface]))) :
    Calls Tryd.prog 60 #[.pointer (some ⟨b, 0, none⟩)] w (DropPost_J B w A' b s (.tuple #[(.agg #[.int .i64 x.l, .int .i64 x.c, .int .i64 x.a, .int .i64 x.d]), .nilIface])) := by
  have hb0 : Below w.heap.size w (w.alloc (.cells #[.int .i64 0, .int .i64 0, .int .i64 0, .int .i64 0] JT)) := (Below.refl _ w).alloc (Nat.le_refl _) _
  have HB := Lib.hid hb0
  have HC := Lib.hid (H _ (h.below hb0))
  have H0 := Lib.hid (has_new w (.cells #[.int .i64 0, .int .i64 0, .int .i64 0, .int .i64 0] JT) _ rfl)
  have hlt := h.lt
  have HG := Lib.hid (fun g e => (h.own.lt g e).2)
  clear H h hb0
  go_enter Tryd.func60, Tryd.ntmps60
  go_wp2_with fail
  refine HC.out.mono ?_
  rintro e w1 ⟨rfl, s', hp, hk, hs⟩
  have hj := HasJ0.keeps (j := ⟨0, 0, 0, 0⟩) H0.out hk (by rintro (e | e); omega; have := HG.out _ e; omega)
  obtain ⟨y0, y1, y2, y3⟩ := hj.cells
  have yf := fun j => has_free hj j
  have HP := Lib.hid hp
  have HK := Lib.hid ((Keeps.of_below (S := fun x => x = b ∨ s.ownBlock = some x) HB.out).trans hk)
  have HS := Lib.hid hs
  clear hp hk hs hj
  go_wp2_with fail
  refine bodyPost_ret (v := .tuple #[.agg #[.int .i64 x.l, .int .i64 x.c, .int .i64 x.a, .int .i64 x.d], .nilIface]) (by simp [results, Tryd.results60, go_sem, y0, y1, y2, y3]) rfl ⟨rfl, s', ?_, ?_, HS.out⟩
  · iterate 4 refine PQ.aside ?_ (by show w.heap.size ≠ b; omega) (by rw [HS.out]; intro e; have := HG.out _ e; simp at this)
    exact HP.out
  · iterate 4 refine Keeps.setCell ?_ _ _ (.inr (Nat.le_refl _))
    exact HK.out
end Go.Proofs.YtpfhebfkhailfaaDoor
