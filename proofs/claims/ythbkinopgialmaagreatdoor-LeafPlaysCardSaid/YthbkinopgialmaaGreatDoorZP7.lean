/- Texts of stages 3, 4, 12 and 13 that stand together: ZLeafA ZLeafP ZLeafL ZLeafO ZLeafS ZLeafD ZApp ZRefP; no condition but those that each row names. -/
import Derived.Test.YthbkinopgialmaaGreatDoorZP3
import Derived.Test.YthbkinopgialmaaGreatDoorZP4
import Derived.Test.YthbkinopgialmaaGreatDoorZP5
import Derived.Test.YthbkinopgialmaaGreatDoorZP6
/- The program's leaf: twin, mark, New, All, Task; no condition but those that each row names. -/
namespace Go.Proofs.YthbkinopgialmaaGreatDoor
open Go.RowKit Tsk

set_option maxHeartbeats 1000000 in
theorem ltwin (p : Int) (s : Value) (n : Nat) (f : Nat → Jb) (k : Ac) (w : World) (h : Jobs w s n f) (hn : n * 32 ≤ 140737488355328) : Calls Tryz.prog 39 #[tV p s k] w fun e w' => ∃ x, e = .returned x ∧ TaskO w p n f k x w' := by
  have HJ := Lib.hid h
  obtain ⟨q, cap, rfl, _, _⟩ := h
  obtain ⟨kg, ko, kn, kd, kc, kt⟩ := k
  obtain ⟨WA, hWA⟩ : ∃ WA, WA = (w.alloc (.cells #[.int .i64 p, .slice q n cap, .int .i64 kg, .int .i64 ko, .int .i64 kn, .int .i64 kd, .int .i64 kc, .int .i64 kt] KT)).alloc (.cells #[.int .i64 0, .slice none 0 0, .int .i64 0, .int .i64 0, .int .i64 0, .int .i64 0, .int .i64 0, .int .i64 0] KT) := ⟨_, rfl⟩
  have HB := Lib.hid (show Below w.heap.size w WA from by rw [hWA]; exact ((Below.refl _ _).alloc (Nat.le_refl _) _).alloc (by simp) _)
  have HT := Lib.hid (show HasT WA w.heap.size p (.slice q n cap) ⟨kg, ko, kn, kd, kc, kt⟩ ∧ HasT WA (w.heap.size + 1) 0 (.slice none 0 0) ⟨0, 0, 0, 0, 0, 0⟩ ∧ WA.heap.size = w.heap.size + 2 from by
    rw [hWA]
    exact ⟨has_old (has_new w _ _ rfl) _, has_new _ _ _ (by simp), by simp⟩)
  have HW := Lib.hid hWA
  clear hWA
  go_enter Tryz.func39, Tryz.ntmps39
  go_upto_region 1 with fail
  rw [← HW.out]
  have x1 := HT.out.1.cells.2.1
  go_wp2_with (at_builtin; refine wpList_append_jobs rfl _ _ rfl (w.heap.size + 2) (.slice none 0 0) 0 [] rfl (World.ownsRow_nil _ _ _ _) _ n (jbL f n) rfl (src_jobs (HJ.out.below HB.out)) (jbL_one _ _) (by omega) (by have := HT.out.2.2; omega) ?_)
  intro p2 c2 w3 ho3 hg3 ha3
  have hb3 : Below WA.heap.size WA w3 := below_of_grown hg3
  have HO3 := Lib.hid (show JobsO (w.heap.size + 2) w3 (.slice p2 n c2) n f from by
    try rw [Nat.zero_add] at ho3
    exact ho3)
  have HB3 := Lib.hid (bnext HB.out hb3)
  have HT3 := Lib.hid (show HasT w3 w.heap.size p (.slice q n cap) ⟨kg, ko, kn, kd, kc, kt⟩ ∧ HasT w3 (w.heap.size + 1) 0 (.slice none 0 0) ⟨0, 0, 0, 0, 0, 0⟩ from ⟨HT.out.1.below hb3, HT.out.2.1.below hb3⟩)
  clear x1
  obtain ⟨x0, x1, x2, x3, x4, x5, x6, x7⟩ := HT3.out.1.cells
  obtain ⟨y0, y1, y2, y3, y4, y5, y6, y7⟩ := HT3.out.2.cells
  have f0 : ∀ j, w3.frozen? ⟨w.heap.size, j, none⟩ = false := fun j => has_free HT3.out.1 j
  have f1 : ∀ j, w3.frozen? ⟨w.heap.size + 1, j, none⟩ = false := fun j => has_free HT3.out.2 j
  clear ho3 hg3 ha3 hb3
  go_wp2_with fail
  refine bodyPost_ret (v := tV p (.slice p2 n c2) ⟨kg, ko, kn, kd, kc, kt⟩) (by simp [results, Tryz.results39, go_sem, y0, y1, y2, y3, y4, y5, y6, y7]) rfl ⟨_, rfl, p2, c2, rfl, ?_, ?_⟩
  · refine own_base2 (B := w.heap.size + 2) ?_ (by omega)
    repeat (first | (with_reducible exact HO3.out) | refine own_low ?_ _ _ (by simp))
  · repeat (first | (with_reducible exact HB3.out) | refine below_low ?_ _ _ (by simp))
theorem lmark (x : Int) (w : World) : Calls Tryz.prog 58 #[.int .i64 x] w fun e w' => e = .returned (.int .i64 (markS x)) ∧ w = w' := by
  by_cases h1 : x = 1
  · subst h1
    go_enter Tryz.func58, Tryz.ntmps58
    go_wp2
    go_ret
    exact ⟨rfl, rfl⟩
  · by_cases h2 : x = 2
    · subst h2
      go_enter Tryz.func58, Tryz.ntmps58
      go_wp2
      go_ret
      exact ⟨rfl, rfl⟩
    · have e : markS x = 0 := by unfold markS; rw [if_neg h1, if_neg h2]
      rw [e]
      have h3 : (x == 1) = false := by simpa using h1
      have h4 : (x == 2) = false := by simpa using h2
      clear e
      go_enter Tryz.func58, Tryz.ntmps58
      go_wp2
      go_ret
      exact ⟨rfl, rfl⟩
theorem own_low8 {B e z n g : Nat} {w : World} {v : Value} {xs : List Value} (h : w.ownsRow B e z v n xs) (hg : g < B) (v0 v1 v2 v3 v4 v5 v6 v7 : Value) : ((((((((w.setCell ⟨g, 0, none⟩ v0).setCell ⟨g, 1, none⟩ v1).setCell ⟨g, 2, none⟩ v2).setCell ⟨g, 3, none⟩ v3).setCell ⟨g, 4, none⟩ v4).setCell ⟨g, 5, none⟩ v5).setCell ⟨g, 6, none⟩ v6).setCell ⟨g, 7, none⟩ v7).ownsRow B e z v n xs :=
  own_low (own_low (own_low (own_low (own_low (own_low (own_low (own_low h _ _ hg) _ _ hg) _ _ hg) _ _ hg) _ _ hg) _ _ hg) _ _ hg) _ _ hg
/-- A new leaf. -/
def NewLf (w : World) (e : Ending) (w' : World) : Prop := ∃ S v, e = .returned v ∧ (∀ X, Lf S X w.heap.size w' (Tab.new 2 8) (fun _ => tk0) v) ∧ Below w.heap.size w w'
set_option maxHeartbeats 1000000 in
theorem lnew (w : World) : Calls Tryz.prog 5 #[] w (NewLf w) := by
  have HN := Lib.hid (fun w => knew_ok 2 8 w (by omega) (by omega) (by omega) (by omega))
  rw [show ((8 : Nat) : Int) = 8 from rfl] at HN
  go_enter Tryz.func5, Tryz.ntmps5
  go_wp2_with fail
  refine (HN.out _).mono ?_
  rintro e w1 ⟨ST, tv, rfl, hp, hb⟩
  have HP := Lib.hid hp
  have HB := Lib.hid hb
  obtain ⟨b, g1, c1, g2, c2, g3, c3, rfl, _⟩ := hp
  clear hb
  go_wp2_with fail
  go_ret
  have hb := HB.out
  have hb2 : Below w1.heap.size w1 (w1.alloc (.cells #[.pointer (some ⟨b, 0, none⟩)] 63)) := (Below.refl _ _).alloc (Nat.le_refl _) _
  have hl := HP.out.lt
  exact ⟨fun x => x = w1.heap.size ∨ ST x, .pointer (some ⟨w1.heap.size, 0, none⟩), rfl, fun X => ⟨fun _ => .slice none 0 0, w1.heap.size, ST, .pointer (some ⟨b, 0, none⟩), rfl, by simp, HP.out.below hb2, ⟨hb.size, fun k => by have := (hl _ k).2; omega⟩, rfl, fun i => JobsX.nil _ _ _⟩, hb.alloc hb.size _⟩
set_option maxHeartbeats 1000000 in
theorem lall (S X Y : Nat → Prop) (B : Nat) (A : Tab) (T : Nat → Tk) (hg : LGood A T) (w : World) (v : Value) (h : Lf S X B w A T v) (hY : ∀ x, Y x → x < w.heap.size) :
    Calls Tryz.prog 28 #[v] w (AllPost Y w A) := by
  obtain ⟨sl, bl, ST, tv, rfl, hc, ht, hb, rfl, hj⟩ := h
  have HA := Lib.hid (kall Y ST B A hg.tab (tm T sl) w tv ht hY)
  obtain ⟨b, g1, c1, g2, c2, g3, c3, rfl, _⟩ := ht
  clear hj hg hY
  go_enter Tryz.func28, Tryz.ntmps28
  go_wp2_with fail
  refine HA.out.mono ?_
  rintro e w1 ⟨r, rfl, hl, hb1⟩
  have HL := Lib.hid hl
  have HB := Lib.hid hb1
  clear hl hb1
  go_wp2_with fail
  go_ret
  exact ⟨_, rfl, HL.out, HB.out⟩
/-- What Task answers. -/
def TaskPost (X : Nat → Prop) (w : World) (A : Tab) (T : Nat → Tk) (x : Int) (e : Ending) (w' : World) : Prop :=
  (A.find x = none → e = .returned (.tuple #[zT, errV 20]) ∧ Below w.heap.size w w') ∧
  ∀ i, A.find x = some i → ∃ s, e = .returned (.tuple #[tV (T i).p s (T i).k, .nilIface]) ∧ JobsX X w' s (T i).n (T i).f ∧ Below w.heap.size w w'
set_option maxHeartbeats 2000000 in
set_option maxRecDepth 100000 in
theorem ltask_none (S X : Nat → Prop) (B : Nat) (A : Tab) (T : Nat → Tk) (hg : LGood A T) (w : World) (v : Value) (h : Lf S X B w A T v) (x : Int) (hf : A.find x = none) :
    Calls Tryz.prog 25 #[v, .int .i64 x] w fun e w' => e = .returned (.tuple #[zT, errV 20]) ∧ Below w.heap.size w w' := by
  obtain ⟨sl, bl, ST, tv, rfl, hc, ht, hb, rfl, hj⟩ := h
  obtain ⟨WA, hWA⟩ : ∃ WA, WA = w.alloc (.cells #[.int .i64 0, .slice none 0 0, .int .i64 0, .int .i64 0, .int .i64 0, .int .i64 0, .int .i64 0, .int .i64 0] KT) := ⟨_, rfl⟩
  have HB := Lib.hid (show Below w.heap.size w WA from by rw [hWA]; exact (Below.refl _ _).alloc (Nat.le_refl _) _)
  have HT := Lib.hid (show HasT WA w.heap.size 0 (.slice none 0 0) kZ ∧ w.heap.size + 1 = WA.heap.size from by rw [hWA]; exact ⟨hasT_new w 0 _ kZ, by simp⟩)
  have HW := Lib.hid hWA
  have hcA := (HB.out.cell (p := ⟨bl, 0, none⟩) (cell_lt hc)).trans hc
  have HG := Lib.hid (kget_none ST B A hg.tab (tm T sl) WA tv (ht.below HB.out) x hf)
  obtain ⟨b, g1, c1, g2, c2, g3, c3, rfl, _⟩ := ht
  clear hj hg hWA hf hc
  go_enter Tryz.func25, Tryz.ntmps25
  go_upto_region 1 with fail
  rw [← HW.out]
  go_wp2_with fail
  refine HG.out.mono ?_
  rintro e w1 ⟨rfl, hb1⟩
  rw [errV_ne (by decide)]
  have HB1 := Lib.hid (bnext HB.out hb1)
  have HT1 := HT.out.1.below hb1
  obtain ⟨x0, x1, x2, x3, x4, x5, x6, x7⟩ := HT1.cells
  have fr := fun j => has_free HT1 j
  have hlt := has_lt HT1
  have HL := Lib.hid (show w.heap.size ≤ w1.heap.size from by omega)
  clear HT1 hb1
  go_wp2_with fail
  refine bodyPost_ret (v := .tuple #[zT, .iface 94 (.int .i64 20)]) (by simp [results, Tryz.results25, go_sem, x0, x1, x2, x3, x4, x5, x6, x7, hlt]) rfl ⟨rfl, ?_⟩
  exact below8a HB1.out (Nat.le_refl _) HL.out _ _ _ _ _ _ _ _ _
set_option maxHeartbeats 2000000 in
set_option maxRecDepth 100000 in
theorem ltask_some (S X Y : Nat → Prop) (B : Nat) (A : Tab) (T : Nat → Tk) (hg : LGood A T) (w : World) (v : Value) (h : Lf S X B w A T v) (x : Int) (hY : ∀ x, Y x → x < w.heap.size) (i : Nat) (hf : A.find x = some i) :
    Calls Tryz.prog 25 #[v, .int .i64 x] w fun e w' => ∃ s, e = .returned (.tuple #[tV (T i).p s (T i).k, .nilIface]) ∧ JobsX Y w' s (T i).n (T i).f ∧ Below w.heap.size w w' := by
  obtain ⟨sl, bl, ST, tv, rfl, hc, ht, hb, rfl, hj⟩ := h
  obtain ⟨WA, hWA⟩ : ∃ WA, WA = w.alloc (.cells #[.int .i64 0, .slice none 0 0, .int .i64 0, .int .i64 0, .int .i64 0, .int .i64 0, .int .i64 0, .int .i64 0] KT) := ⟨_, rfl⟩
  have HB := Lib.hid (show Below w.heap.size w WA from by rw [hWA]; exact (Below.refl _ _).alloc (Nat.le_refl _) _)
  have HT := Lib.hid (show HasT WA w.heap.size 0 (.slice none 0 0) kZ ∧ w.heap.size + 1 = WA.heap.size from by rw [hWA]; exact ⟨hasT_new w 0 _ kZ, by simp⟩)
  have HW := Lib.hid hWA
  have hcA := (HB.out.cell (p := ⟨bl, 0, none⟩) (cell_lt hc)).trans hc
  have HG := Lib.hid (kget_some ST B A hg.tab (tm T sl) WA tv (ht.below HB.out) (isSl_tm (w := w) hj) x i hf)
  dsimp only [tm] at HG
  have HJ := Lib.hid (hj i).1
  obtain ⟨⟨q0, cap0, hs, _⟩, _⟩ := hj i
  rw [hs] at HG HJ
  have hok := (hg.ok i).2.1
  have HY := Lib.hid hY
  obtain ⟨t, hti⟩ : ∃ t, t = T i := ⟨_, rfl⟩
  rw [← hti] at HG HJ hok ⊢
  obtain ⟨b, g1, c1, g2, c2, g3, c3, rfl, _⟩ := ht
  clear hj hg hWA hf hc hs hti hY
  obtain ⟨tp, ts, tn, tf, ⟨kg, ko, kn, kd, kc, kt⟩⟩ := t
  dsimp only at HG HJ hok ⊢
  have HTW := Lib.hid (fun W (hb : Below w.heap.size w W) => ltwin tp (.slice q0 tn cap0) tn tf ⟨kg, ko, kn, kd, kc, kt⟩ W (HJ.out.below hb) (by omega))
  have HK := Lib.hid hok
  clear hok
  go_enter Tryz.func25, Tryz.ntmps25
  go_upto_region 1 with fail
  rw [← HW.out]
  go_wp2_with fail
  refine HG.out.mono ?_
  rintro e w1 ⟨rfl, hb1⟩
  have HB1 := Lib.hid (bnext HB.out hb1)
  have HT1 := Lib.hid (HT.out.1.below hb1)
  clear hb1
  go_wp2_with fail
  refine (HTW.out _ (HB1.out.alloc HB1.out.size _)).mono ?_
  rintro e w2 ⟨y, rfl, q2, c2', rfl, ho, hb2⟩
  have HO := Lib.hid ho
  have HB2 := Lib.hid (bnext (HB1.out.alloc HB1.out.size _) hb2)
  have HT2 := HasT.below (has_old HT1.out _) hb2
  obtain ⟨x0, x1, x2, x3, x4, x5, x6, x7⟩ := HT2.cells
  have fr := fun j => has_free HT2 j
  have HL := Lib.hid (show w.heap.size < w1.heap.size from has_lt HT1.out)
  clear HT2 hb2 ho
  go_wp2_with fail
  refine bodyPost_ret (v := .tuple #[tV tp (.slice q2 tn c2') ⟨kg, ko, kn, kd, kc, kt⟩, .nilIface]) (by simp [results, Tryz.results25, go_sem, x0, x1, x2, x3, x4, x5, x6, x7]) rfl ⟨.slice q2 tn c2', rfl, ?_, below8 HB2.out (Nat.le_refl _) _ _ _ _ _ _ _ _⟩
  have hl := HL.out
  exact JobsX.own (own_low8 HO.out (by simp; omega) _ _ _ _ _ _ _ _) (by have := HK.out; omega) (fun x hx => by have := HY.out x hx; simp; omega)
theorem ltask (S X Y : Nat → Prop) (B : Nat) (A : Tab) (T : Nat → Tk) (hg : LGood A T) (w : World) (v : Value) (h : Lf S X B w A T v) (x : Int) (hY : ∀ x, Y x → x < w.heap.size) :
    Calls Tryz.prog 25 #[v, .int .i64 x] w (TaskPost Y w A T x) := by
  cases hf : A.find x with
  | none => exact (ltask_none S X B A T hg w v h x hf).mono fun e w' hh => ⟨fun _ => hh, fun i hi => by rw [hf] at hi; cases hi⟩
  | some i => exact (ltask_some S X Y B A T hg w v h x hY i hf).mono fun e w' hh => ⟨fun hi => (by rw [hf] at hi; cases hi), fun j hj => by rw [hf] at hj; cases hj; exact hh⟩
end Go.Proofs.YthbkinopgialmaaGreatDoor
/- The program's leaf: Push; no condition but those that each row names. -/
namespace Go.Proofs.YthbkinopgialmaaGreatDoor
open Go.RowKit Tsk

set_option maxHeartbeats 2000000 in
set_option maxRecDepth 100000 in
theorem lpush_none (S X : Nat → Prop) (B : Nat) (A : Tab) (T : Nat → Tk) (hg : LGood A T) (w : World) (v : Value) (h : Lf S X B w A T v) (x : Int) (j : Jb) (now : Int) (hf : A.find x = none) :
    Calls Tryz.prog 21 #[v, .int .i64 x, jV j, .int .i64 now] w fun e w' => e = .returned (errV 20) ∧ Below w.heap.size w w' := by
  obtain ⟨sl, bl, ST, tv, rfl, hc, ht, hb, rfl, hj⟩ := h
  obtain ⟨jl, jc, ja, jd⟩ := j
  obtain ⟨WA, hWA⟩ : ∃ WA, WA = w.alloc (.cells #[.int .i64 jl, .int .i64 jc, .int .i64 ja, .int .i64 jd] JT) := ⟨_, rfl⟩
  have HB := Lib.hid (show Below w.heap.size w WA from by rw [hWA]; exact (Below.refl _ _).alloc (Nat.le_refl _) _)
  have HW := Lib.hid hWA
  have hcA := (HB.out.cell (p := ⟨bl, 0, none⟩) (cell_lt hc)).trans hc
  have HG := Lib.hid (kget_none ST B A hg.tab (tm T sl) WA tv (ht.below HB.out) x hf)
  obtain ⟨b, g1, c1, g2, c2, g3, c3, rfl, _⟩ := ht
  clear hj hg hWA hf hc hb
  go_enter Tryz.func21, Tryz.ntmps21
  go_upto_region 1 with fail
  rw [← HW.out]
  go_wp2_with fail
  refine HG.out.mono ?_
  rintro e w1 ⟨rfl, hb1⟩
  rw [errV_ne (by decide)]
  have HB1 := Lib.hid (bnext HB.out hb1)
  clear hb1
  go_wp2_with fail
  go_ret
  exact ⟨rfl, HB1.out.alloc HB1.out.size _⟩
/-- What stands behind Push's call of task.Push. -/
def PushBox (w : World) (W1 : World) (b1 : Nat) (tp : Int) (sv : Value) (k : Ac) (jl jc ja jd : Int) : Prop := Below w.heap.size w W1 ∧ HasT W1 b1 tp sv k ∧ HasJ W1 w.heap.size ⟨jl, jc, ja, jd⟩ ∧ w.heap.size < b1
set_option maxHeartbeats 4000000 in
set_option maxRecDepth 100000 in
theorem lpush_some (S X : Nat → Prop) (B : Nat) (A : Tab) (T : Nat → Tk) (hg : LGood A T) (w : World) (v : Value) (h : Lf S X B w A T v) (hX : ∀ x, S x → X x) (hXw : ∀ x, X x → x < w.heap.size) (x : Int) (j : Jb) (now : Int) (i : Nat) (hf : A.find x = some i) :
    Calls Tryz.prog 21 #[v, .int .i64 x, jV j, .int .i64 now] w (LfPost S X B w A (if pushE (T i).p (T i).n (T i).f (T i).k j now = 0 then upd T i (tkPush (T i) sN j now) else T) v (errV (pushE (T i).p (T i).n (T i).f (T i).k j now))) := by
  have HLF := Lib.hid h
  obtain ⟨sl, bl, ST, tv, rfl, hc, ht, hb, hS, hj⟩ := h
  obtain ⟨jl, jc, ja, jd⟩ := j
  obtain ⟨WA, hWA⟩ : ∃ WA, WA = w.alloc (.cells #[.int .i64 jl, .int .i64 jc, .int .i64 ja, .int .i64 jd] JT) := ⟨_, rfl⟩
  have HB := Lib.hid (show Below w.heap.size w WA from by rw [hWA]; exact (Below.refl _ _).alloc (Nat.le_refl _) _)
  have HJB := Lib.hid (show HasJ WA w.heap.size ⟨jl, jc, ja, jd⟩ from by rw [hWA]; exact has_new _ _ _ rfl)
  have HW := Lib.hid hWA
  have HC := Lib.hid hc
  have hcA := (HB.out.cell (p := ⟨bl, 0, none⟩) (cell_lt hc)).trans hc
  have HG := Lib.hid (kget_some ST B A hg.tab (tm T sl) WA tv (ht.below HB.out) (isSl_tm (w := w) hj) x i hf)
  dsimp only [tm] at HG
  have HJ := Lib.hid (hj i).1
  have hok := hg.ok i
  have HXW := Lib.hid hXw
  obtain ⟨⟨q0, cap0, hs, _⟩, _⟩ := hj i
  rw [hs] at HG HJ
  obtain ⟨t, hti⟩ : ∃ t, t = T i := ⟨_, rfl⟩
  rw [← hti] at HG HJ hok ⊢
  clear hti
  obtain ⟨tp, ts, tn, tf, ⟨kg, ko, kn, kd, kc, kt⟩⟩ := t
  have hn8 := hok.2.1
  dsimp only at HG HJ hn8 ⊢
  have HPU := Lib.hid (fun W (hb : Below w.heap.size w W) => ppush_any tp (.slice q0 tn cap0) tn tf ⟨kg, ko, kn, kd, kc, kt⟩ ⟨jl, jc, ja, jd⟩ now W (HJ.out.below hb) (okT_c hok))
  have HST := Lib.hid (fun W (hb : Below w.heap.size w W) p' q n c f k => kset_some ST B A hg.tab (tm T sl) W tv (ht.below hb) x p' q n c f k i hf)
  have HACT := Lib.hid (fun W' (p : Int) (s : Value) (n : Nat) (f : Nat → Jb) (k : Ac) (ht : PKTab ST B W' A (upd (tm T sl) i ⟨p, s, n, f, k⟩) tv) (hk : Keeps ST w W') (hn : JobsX X W' s n f) => Lf.act2 (v := .pointer (some ⟨bl, 0, none⟩)) (T := T) rfl hc hb hS hj hX sN ht hk hn)
  have HTX := Lib.hid (show ∀ x, ST x → X x from fun x hx => hX x (by rw [hS]; exact .inr hx))
  obtain ⟨b, g1, c1, g2, c2, g3, c3, rfl, _⟩ := ht
  unfold tkPush
  dsimp only
  have HN8 := Lib.hid hn8
  clear hj hg hWA hf hc hs hS hX hb hok hXw hn8
  obtain ⟨E, hE⟩ : ∃ E, E = pushE tp tn tf ⟨kg, ko, kn, kd, kc, kt⟩ ⟨jl, jc, ja, jd⟩ now := ⟨_, rfl⟩
  rw [← hE] at HPU ⊢
  clear hE
  by_cases hE : E = 0
  · subst hE
    simp only [if_true, errV_0] at HPU ⊢
    go_enter Tryz.func21, Tryz.ntmps21
    go_upto_region 1 with fail
    rw [← HW.out]
    go_wp2_with fail
    refine HG.out.mono ?_
    rintro e w1 ⟨rfl, hb1⟩
    obtain ⟨W1, hW1⟩ : ∃ W1, W1 = w1.alloc (.cells #[.int .i64 tp, .slice q0 tn cap0, .int .i64 kg, .int .i64 ko, .int .i64 kn, .int .i64 kd, .int .i64 kc, .int .i64 kt] KT) := ⟨_, rfl⟩
    have HP1 := Lib.hid (show PushBox w W1 w1.heap.size tp (.slice q0 tn cap0) ⟨kg, ko, kn, kd, kc, kt⟩ jl jc ja jd from by
      rw [hW1]
      have h1 := bnext HB.out hb1
      exact ⟨h1.alloc h1.size _, hasT_new w1 tp _ ⟨kg, ko, kn, kd, kc, kt⟩, has_old (HJB.out.below hb1) _, has_lt (HJB.out.below hb1)⟩)
    have HW2 := Lib.hid hW1
    clear hW1 hb1
    go_upto_region 4 with fail
    rw [← HW2.out]
    obtain ⟨x0, x1, x2, x3, x4, x5, x6, x7⟩ := HP1.out.2.1.cells
    obtain ⟨y0, y1, y2, y3⟩ := HP1.out.2.2.1.cells
    go_wp2_with fail
    refine (HPU.out W1 HP1.out.1).mono ?_
    rintro e w2 ⟨xx, rfl, s2, c2', rfl, ho, hb2⟩
    have HB2 := Lib.hid (bnext HP1.out.1 hb2)
    have HT2 := Lib.hid (HP1.out.2.1.below hb2)
    have HO := Lib.hid ho
    have HBL := Lib.hid (show w.heap.size ≤ w1.heap.size ∧ w1.heap.size < W1.heap.size from ⟨Nat.le_of_lt HP1.out.2.2.2, has_lt HP1.out.2.1⟩)
    clear x0 x1 x2 x3 x4 x5 x6 x7 y0 y1 y2 y3 hb2 ho
    obtain ⟨z0, z1, z2, z3, z4, z5, z6, z7⟩ := HT2.out.cells
    have fr := fun j => has_free HT2.out j
    have HJ3 := Lib.hid (fun (W3 : World) (h3 : W3 = ((((((((w2.setCell ⟨w1.heap.size, 0, none⟩ (.int .i64 tp)).setCell ⟨w1.heap.size, 1, none⟩ (.slice s2 (tn + 1) c2')).setCell ⟨w1.heap.size, 2, none⟩ (.int .i64 kg)).setCell ⟨w1.heap.size, 3, none⟩ (.int .i64 ko)).setCell ⟨w1.heap.size, 4, none⟩ (.int .i64 kn)).setCell ⟨w1.heap.size, 5, none⟩ (.int .i64 kd)).setCell ⟨w1.heap.size, 6, none⟩ (.int .i64 kc)).setCell ⟨w1.heap.size, 7, none⟩ (.int .i64 kt))) =>
      show Below w.heap.size w W3 ∧ HasT W3 w1.heap.size tp (.slice s2 (tn + 1) c2') ⟨kg, ko, kn, kd, kc, kt⟩ ∧ JobsX X W3 (.slice s2 (tn + 1) c2') (tn + 1) (upd tf tn ⟨jl, jc, now, jd⟩) from by
        rw [h3]
        have hbl := HBL.out
        exact ⟨below8 HB2.out hbl.1 _ _ _ _ _ _ _ _, HasT.set8 (k' := ⟨kg, ko, kn, kd, kc, kt⟩) HT2.out, JobsX.own (own_low8 HO.out hbl.2 _ _ _ _ _ _ _ _) (by have := HN8.out; omega) (fun y hy => by have := HXW.out y hy; omega)⟩)
    go_upto_region 7 with fail
    obtain ⟨W3, hW3⟩ : ∃ W3, W3 = ((((((((w2.setCell ⟨w1.heap.size, 0, none⟩ (.int .i64 tp)).setCell ⟨w1.heap.size, 1, none⟩ (.slice s2 (tn + 1) c2')).setCell ⟨w1.heap.size, 2, none⟩ (.int .i64 kg)).setCell ⟨w1.heap.size, 3, none⟩ (.int .i64 ko)).setCell ⟨w1.heap.size, 4, none⟩ (.int .i64 kn)).setCell ⟨w1.heap.size, 5, none⟩ (.int .i64 kd)).setCell ⟨w1.heap.size, 6, none⟩ (.int .i64 kc)).setCell ⟨w1.heap.size, 7, none⟩ (.int .i64 kt)) := ⟨_, rfl⟩
    rw [← hW3]
    have H3 := Lib.hid (HJ3.out W3 hW3)
    clear hW3 z0 z1 z2 z3 z4 z5 z6 z7 fr HJ3
    obtain ⟨x0, x1, x2, x3, x4, x5, x6, x7⟩ := H3.out.2.1.cells
    have hc3 := (H3.out.1.cell (p := ⟨bl, 0, none⟩) (cell_lt HC.out)).trans HC.out
    go_region_law (go_simp; go_at_call 38; refine (HST.out _ H3.out.1.drew tp s2 (tn + 1) c2' (upd tf tn ⟨jl, jc, now, jd⟩) ⟨kg, ko, kn, kd, kc, kt⟩).mono ?_; rintro e w4 ⟨rfl, ht4, hk4⟩)
    all_goals
      have HR := Lib.hid (HACT.out w4 tp _ (tn + 1) (upd tf tn ⟨jl, jc, now, jd⟩) ⟨kg, ko, kn, kd, kc, kt⟩ ht4 (Keeps.trans (Keeps.of_below H3.out.1.drew) hk4) ((H3.out.2.2.below below_drewOne).keeps hk4 HTX.out))
      clear ht4 hk4
      go_wp2_with fail
      go_ret
      exact ⟨rfl, HR.out.1, HR.out.2⟩
  · simp only [if_neg hE] at HPU ⊢
    rw [errV_ne hE] at HPU ⊢
    go_enter Tryz.func21, Tryz.ntmps21
    go_upto_region 1 with fail
    rw [← HW.out]
    go_wp2_with fail
    refine HG.out.mono ?_
    rintro e w1 ⟨rfl, hb1⟩
    obtain ⟨W1, hW1⟩ : ∃ W1, W1 = w1.alloc (.cells #[.int .i64 tp, .slice q0 tn cap0, .int .i64 kg, .int .i64 ko, .int .i64 kn, .int .i64 kd, .int .i64 kc, .int .i64 kt] KT) := ⟨_, rfl⟩
    have HP1 := Lib.hid (show PushBox w W1 w1.heap.size tp (.slice q0 tn cap0) ⟨kg, ko, kn, kd, kc, kt⟩ jl jc ja jd from by
      rw [hW1]
      have h1 := bnext HB.out hb1
      exact ⟨h1.alloc h1.size _, hasT_new w1 tp _ ⟨kg, ko, kn, kd, kc, kt⟩, has_old (HJB.out.below hb1) _, has_lt (HJB.out.below hb1)⟩)
    have HW2 := Lib.hid hW1
    clear hW1 hb1
    go_upto_region 4 with fail
    rw [← HW2.out]
    obtain ⟨x0, x1, x2, x3, x4, x5, x6, x7⟩ := HP1.out.2.1.cells
    obtain ⟨y0, y1, y2, y3⟩ := HP1.out.2.2.1.cells
    go_wp2_with fail
    refine (HPU.out W1 HP1.out.1).mono ?_
    rintro e w2 ⟨xx, rfl, s2, c2', rfl, ho, hb2⟩
    have HB2 := Lib.hid (bnext HP1.out.1 hb2)
    have HT2 := Lib.hid (HP1.out.2.1.below hb2)
    have HO := Lib.hid ho
    have HBL := Lib.hid (show w.heap.size ≤ w1.heap.size ∧ w1.heap.size < W1.heap.size from ⟨Nat.le_of_lt HP1.out.2.2.2, has_lt HP1.out.2.1⟩)
    clear x0 x1 x2 x3 x4 x5 x6 x7 y0 y1 y2 y3 hb2 ho
    obtain ⟨z0, z1, z2, z3, z4, z5, z6, z7⟩ := HT2.out.cells
    have fr := fun j => has_free HT2.out j
    have hbl := HBL.out.1
    have HBF := Lib.hid (fun v0 v1 v2 v3 v4 v5 v6 v7 => below8 HB2.out hbl v0 v1 v2 v3 v4 v5 v6 v7)
    go_wp2_with fail
    go_ret
    exact ⟨rfl, HLF.out.below (HBF.out _ _ _ _ _ _ _ _), Keeps.of_below (HBF.out _ _ _ _ _ _ _ _)⟩
theorem lpush (S X : Nat → Prop) (B : Nat) (A : Tab) (T : Nat → Tk) (hg : LGood A T) (w : World) (v : Value) (h : Lf S X B w A T v) (hX : ∀ x, S x → X x) (hXw : ∀ x, X x → x < w.heap.size) (x : Int) (j : Jb) (now : Int) :
    Calls Tryz.prog 21 #[v, .int .i64 x, jV j, .int .i64 now] w (LfPost S X B w A (pushT A T x j now) v (errV (pushN A T x j now))) := by
  cases hf : A.find x with
  | none =>
    have e1 : pushN A T x j now = 20 := by simp [pushN, hf]
    have e2 : pushT A T x j now = T := by simp [pushT, hf]
    rw [e1, e2]
    exact (lpush_none S X B A T hg w v h x j now hf).mono fun e w' ⟨he, hb⟩ => ⟨he, h.below hb, Keeps.of_below hb⟩
  | some i =>
    have e1 : pushN A T x j now = pushE (T i).p (T i).n (T i).f (T i).k j now := by simp [pushN, hf]
    have e2 : pushT A T x j now = if pushE (T i).p (T i).n (T i).f (T i).k j now = 0 then upd T i (tkPush (T i) sN j now) else T := by simp [pushT, hf]
    rw [e1, e2]
    exact lpush_some S X B A T hg w v h hX hXw x j now i hf
end Go.Proofs.YthbkinopgialmaaGreatDoor
/- The program's leaf: list, Ready; no condition but those that each row names. -/
namespace Go.Proofs.YthbkinopgialmaaGreatDoor
open Go.RowKit Tsk

/-- The tasks that are told, ahead of place k. -/
def listF (A : Tab) (T : Nat → Tk) (k : Nat) : Nat → Tk := fun j => if j < k then T (A.idxs.getD j 0) else tk0
theorem listF_0 (A : Tab) (T : Nat → Tk) : listF A T 0 = fun _ => tk0 := by funext j; unfold listF; rw [if_neg (by omega)]
theorem listF_s (A : Tab) (T : Nat → Tk) (k : Nat) : listF A T (k + 1) = upd (listF A T k) k (T (A.idxs.getD k 0)) := by
  funext j
  unfold upd
  by_cases e : j = k
  · subst e; rw [if_pos rfl]; unfold listF; rw [if_pos (by omega)]
  · rw [if_neg e]
    unfold listF
    have : (j < k + 1) = (j < k) := propext ⟨fun h => by omega, fun h => by omega⟩
    simp only [this]
theorem idxs_at {A : Tab} {j : Nat} (h : j < A.idxs.length) : A.idxs.getD j 0 < A.gens.length ∧ A.t (A.idxs.getD j 0) = true := idxTo_at (t := A.t) (m := A.n) h
theorem all_at {A : Tab} {j : Nat} (h : j < A.idxs.length) : (ints A.all)[j]? = some (.int .i64 (A.hd (A.idxs.getD j 0))) := by
  unfold Tab.all ints
  simp [h, List.getD_eq_getElem?_getD]
/-- A row of the tasks that are told. -/
def ListPost (w : World) (A : Tab) (TT : Nat → Tk) (e : Ending) (w' : World) : Prop := ∃ g c, e = .returned (.slice (some ⟨g, 0, none⟩) A.idxs.length c) ∧ w'.ownsRow w.heap.size KT 8 (.slice (some ⟨g, 0, none⟩) A.idxs.length c) A.idxs.length (tkL (listF A TT A.idxs.length) A.idxs.length) ∧ Below w.heap.size w w'
set_option maxHeartbeats 4000000 in
set_option maxRecDepth 100000 in
theorem llist (ST Y : Nat → Prop) (B : Nat) (A : Tab) (TT : Nat → Tk) (hA : A.Good) (hT : IsSl TT) (w : World) (bl : Nat) (tv : Value) (hc : w.cell? ⟨bl, 0, none⟩ = some tv) (ht : PKTab ST B w A TT tv) (av : Value) (ha : Lst Y w av (ints A.all)) :
    Calls Tryz.prog 64 #[.pointer (some ⟨bl, 0, none⟩), av] w (ListPost w A TT) := by
  have HC := Lib.hid hc
  have hm4 : A.idxs.length ≤ 4096 := Nat.le_trans (idxTo_len A.t A.n) hA.n4
  have HG := Lib.hid (fun W (hb : Below w.heap.size w W) (j : Nat) (hj : j < A.idxs.length) => kget_some ST B A hA TT W tv (ht.below hb) hT (A.hd (A.idxs.getD j 0)) (A.idxs.getD j 0) (find_hd hA (idxs_at hj).1 (idxs_at hj).2))
  obtain ⟨b, g1, c1, g2, c2, g3, c3, rfl, _⟩ := ht
  obtain ⟨pa, ca, rfl, _, hal⟩ := ha
  have HAL := Lib.hid (show ∀ j, j < A.idxs.length → ∃ ba oa, pa = some ⟨ba, oa, none⟩ ∧ w.cell? ⟨ba, oa + j, none⟩ = some (.int .i64 (A.hd (A.idxs.getD j 0))) from fun j hj => by
    obtain ⟨ba, oa, e, _, hca⟩ := hal j _ (all_at hj)
    exact ⟨ba, oa, e, hca⟩)
  have el : (ints A.all).length = A.idxs.length := by rw [ints_len, all_len]
  rw [el]
  have HSL := Lib.hid hT
  unfold ListPost
  generalize hm : A.idxs.length = m at *
  have HM := Lib.hid hm
  have hmk := fun w => make_tasks m (by omega) w
  clear hc el hA hm hT hal
  go_enter Tryz.func64, Tryz.ntmps64
  go_upto_region 2 with fail
  have HB0 := Lib.hid (show Below w.heap.size w (w.alloc (.cells (tkZ m) KT)) from (Below.refl _ _).alloc (Nat.le_refl _) _)
  have HO0 := Lib.hid (show (w.alloc (.cells (tkZ m) KT)).ownsRow w.heap.size KT 8 (.slice (some ⟨w.heap.size, 0, none⟩) m m) m (tkL (listF A TT 0) m) from by rw [listF_0]; exact own_tkZ w m _ rfl (Nat.le_refl _) hm4)
  clear hmk
  generalize w.alloc (.cells (tkZ m) KT) = W0 at *
  go_wp2_with fail
  go_loopw [13] (fun iv wr => ∃ i : Nat, iv = .int .i64 i ∧ i ≤ m ∧ Hid (wr.ownsRow w.heap.size KT 8 (.slice (some ⟨w.heap.size, 0, none⟩) m m) m (tkL (listF A TT i) m)) ∧ Hid (Below w.heap.size w wr)) (fun iv _ => m - (intOf iv).toNat)
  case atStart => exact ⟨0, rfl, Nat.zero_le _, HO0, HB0⟩
  case round =>
    clear HO0 HB0
    obtain ⟨i, rfl, hi, HO, HB⟩ := hrel
    by_cases him : i < m
    · have hc1 := (HB.out.cell (p := ⟨bl, 0, none⟩) (cell_lt HC.out)).trans HC.out
      obtain ⟨ba, oa, rfl, hca⟩ := HAL.out i him
      have hca1 := (HB.out.cell (p := ⟨ba, oa + i, none⟩) (cell_lt hca)).trans hca
      have HGi := Lib.hid (HG.out wr HB.out i him)
      have z0 : (0 : Int) ≤ (i : Int) := by omega
      have z1 : (i : Int) < (m : Int) := by omega
      clear hca
      have HSi := Lib.hid (HSL.out (A.idxs.getD i 0))
      have HLS := Lib.hid (listF_s A TT i)
      generalize A.hd (A.idxs.getD i 0) = hx at *
      obtain ⟨t, hti⟩ : ∃ t, t = TT (A.idxs.getD i 0) := ⟨_, rfl⟩
      rw [← hti] at HGi HSi HLS
      clear hti
      obtain ⟨tp, ts, tn, tf, ⟨kg, ko, kn, kd, kc, kt⟩⟩ := t
      obtain ⟨q0, cq0, hq0⟩ := HSi.out
      dsimp only at hq0 HGi
      subst hq0
      clear HSi
      go_wp2_with fail
      refine HGi.out.mono ?_
      rintro e w1 ⟨rfl, hb1⟩
      have HB1 := Lib.hid (bnext HB.out hb1)
      have HO1 := Lib.hid (own_under HO.out hb1)
      have q := fun (r : Nat) (hr : r < 8) => (World.ownsRow.cellAt HO1.out (i * 8 + r) (by omega)).trans (tkL_at (listF A TT i) him r hr)
      have q0' := q 0 (by omega)
      have q1' := q 1 (by omega)
      have q2' := q 2 (by omega)
      have q3' := q 3 (by omega)
      have q4' := q 4 (by omega)
      have q5' := q 5 (by omega)
      have q6' := q 6 (by omega)
      have q7' := q 7 (by omega)
      rw [Nat.add_zero] at q0'
      have fr := fun j => World.ownsRow.frozenAt HO1.out j
      generalize prtT (listF A TT i i) 0 = y0 at *
      generalize prtT (listF A TT i i) 1 = y1 at *
      generalize prtT (listF A TT i i) 2 = y2 at *
      generalize prtT (listF A TT i i) 3 = y3 at *
      generalize prtT (listF A TT i i) 4 = y4 at *
      generalize prtT (listF A TT i i) 5 = y5 at *
      generalize prtT (listF A TT i i) 6 = y6 at *
      generalize prtT (listF A TT i i) 7 = y7 at *
      clear q hb1
      go_wp2_with fail
      go_roundw
      case rel =>
        refine ⟨i + 1, by go_num, by omega, Lib.hid ?_, Lib.hid (below_set8 HB1.out (Nat.le_refl _) _ _ _ _ _ _ _ _ _)⟩
        rw [HLS.out]
        exact own_set8 HO1.out i ⟨tp, .slice q0 tn cq0, tn, tf, ⟨kg, ko, kn, kd, kc, kt⟩⟩
      case measure => simp [intOf]; omega
    · have hk : i = m := by omega
      have HI := Lib.hid hk
      clear hk
      go_wp2_with fail
      go_ret
      exact ⟨_, _, rfl, by have h := HO.out; rw [HI.out] at h; exact h, HB.out⟩
theorem listF_tm (A : Tab) (T : Nat → Tk) (sl : Nat → Value) (j : Nat) (h : j < A.idxs.length) : (listF A (tm T sl) A.idxs.length j).n = (T (A.idxs.getD j 0)).n ∧ (listF A (tm T sl) A.idxs.length j).p = (T (A.idxs.getD j 0)).p := by
  unfold listF; rw [if_pos h]; exact ⟨rfl, rfl⟩
/-- The list as a slice of tasks. -/
theorem list_tasks {X : Nat → Prop} {w w' : World} {B m : Nat} {A : Tab} {T : Nat → Tk} {sl : Nat → Value} {v : Value} (hj : ∀ i, JobsX X w (sl i) (T i).n (T i).f) (hb : Below w.heap.size w w') (hm : m ≤ 4096) (h : w'.ownsRow B KT 8 v m (tkL (listF A (tm T sl) m) m)) : Tasks w' v m (listF A (tm T sl) m) :=
  own_tasks h (by omega) fun j hj2 => by
    unfold listF
    rw [if_pos hj2]
    exact (hj _).1.below hb
set_option maxHeartbeats 4000000 in
set_option maxRecDepth 100000 in
theorem lready (S X : Nat → Prop) (B : Nat) (A : Tab) (T : Nat → Tk) (hg : LGood A T) (w : World) (v : Value) (h : Lf S X B w A T v) :
    Calls Tryz.prog 30 #[v] w fun e w' => e = .returned (.int .i64 (rdyH A T)) ∧ Below w.heap.size w w' := by
  obtain ⟨sl, bl, ST, tv, rfl, hc, ht, hb, rfl, hj⟩ := h
  have hi0 := idxTo_len A.t A.n
  have hn8 : A.n = 8 := hg.len
  have HA := Lib.hid (kall (fun _ => False) ST B A hg.tab (tm T sl) w tv ht (fun _ k => k.elim))
  have HL := Lib.hid (fun W (hb : Below w.heap.size w W) av ha => llist ST (fun _ => False) B A (tm T sl) hg.tab (isSl_tm hj) W bl tv ((hb.cell (p := ⟨bl, 0, none⟩) (cell_lt hc)).trans hc) (ht.below hb) av ha)
  have HPK := Lib.hid (fun (W w' : World) (hb : Below w.heap.size w w') v hh => ppick v A.idxs.length (listF A (tm T sl) A.idxs.length) w' (list_tasks (B := W.heap.size) hj hb (by have : A.idxs.length ≤ A.n := hi0; omega) hh))
  have hpe : pickS (listF A (tm T sl) A.idxs.length) A.idxs.length = pickS (fun j => T ((idxTo A.t 8).getD j 0)) (idxTo A.t 8).length := by
    have e : A.idxs = idxTo A.t 8 := by unfold Tab.idxs idxTo; rw [hn8]
    rw [← e]
    exact pickS_congr fun j hj => listF_tm A T sl j hj
  obtain ⟨k1, k2⟩ := pick_first A.t T 8
  have hle := pickS_le (fun j => T ((idxTo A.t 8).getD j 0)) (idxTo A.t 8).length
  have e0 : A.idxs = idxTo A.t 8 := by unfold Tab.idxs idxTo; rw [hn8]
  rw [hpe] at HPK
  rw [← e0] at k1 k2 hle HPK
  have hk : (pickS (fun j => T (A.idxs.getD j 0)) A.idxs.length < 0 ∧ rdyH A T = 0) ∨ (∃ q : Nat, pickS (fun j => T (A.idxs.getD j 0)) A.idxs.length = q ∧ q < A.idxs.length ∧ rdyH A T = A.hd (A.idxs.getD q 0)) := by
    by_cases hr : rdy A T < 0
    · exact .inl ⟨by have := k1 hr; omega, by unfold rdyH; rw [if_pos hr]⟩
    · obtain ⟨q0, q1⟩ := k2 (by unfold rdy at hr; omega)
      refine .inr ⟨(pickS (fun j => T (A.idxs.getD j 0)) A.idxs.length).toNat, by omega, by omega, ?_⟩
      unfold rdyH
      rw [if_neg hr, q1]
      rfl
  generalize pickS (fun j => T (A.idxs.getD j 0)) A.idxs.length = pk at *
  have el : (ints A.all).length = A.idxs.length := by rw [ints_len, all_len]
  have HEL := Lib.hid el
  have HAT := Lib.hid (fun (j : Nat) (h : j < A.idxs.length) => all_at h)
  obtain ⟨b, g1, c1, g2, c2, g3, c3, rfl, _⟩ := ht
  have HHB := Lib.hid (cell_lt hc)
  have HHC := Lib.hid hc
  unfold ListPost at HL
  generalize hm : A.idxs.length = m at *
  clear hj hg hi0 hn8 hpe k1 k2 hle e0 hb el
  go_enter Tryz.func30, Tryz.ntmps30
  go_wp2_with fail
  refine HA.out.mono ?_
  rintro e w1 ⟨r, rfl, hl, hb1⟩
  have HB1 := Lib.hid hb1
  have HLL := Lib.hid hl
  obtain ⟨pa, ca, rfl, _, _⟩ := hl
  rw [HEL.out] at HLL ⊢
  clear hb1
  go_wp2_with fail
  refine (HL.out w1 HB1.out _ HLL.out).mono ?_
  rintro e w2 ⟨g, c, rfl, ho, hb2⟩
  have HB2 := Lib.hid (bnext HB1.out hb2)
  have HO := Lib.hid ho
  clear ho
  have HE2 := Lib.hid (fun (j : Nat) (h : j < m) => show ∃ ba oa, pa = some ⟨ba, oa, none⟩ ∧ w2.cell? ⟨ba, oa + j, none⟩ = some (.int .i64 (A.hd (A.idxs.getD j 0))) from by
    obtain ⟨_, _, e, _, hal⟩ := HLL.out
    simp only [Value.slice.injEq] at e
    obtain ⟨ba, oa, e2, _, hca⟩ := hal j _ (HAT.out j h)
    exact ⟨ba, oa, by rw [e.1]; exact e2, (hb2.cell (p := ⟨ba, oa + j, none⟩) (cell_lt hca)).trans hca⟩)
  clear hb2
  go_wp2_with fail
  refine (HPK.out w1 w2 HB2.out _ HO.out).mono ?_
  rintro e w3 ⟨rfl, hb3⟩
  have HB3 := Lib.hid (bnext HB2.out hb3)
  rcases hk with ⟨hneg, hr⟩ | ⟨q, hq, hqm, hr⟩
  · have hd : decide (pk < 0) = true := decide_eq_true hneg
    have HR := Lib.hid hr
    clear hb3 hr
    go_wp2_with fail
    go_ret
    exact ⟨ret_int HR.out.symm, HB3.out⟩
  · subst hq
    obtain ⟨ba, oa, rfl, hca⟩ := HE2.out q hqm
    have hc3 := (hb3.cell (p := ⟨ba, oa + q, none⟩) (cell_lt hca)).trans hca
    have HR := Lib.hid hr
    generalize A.hd (A.idxs.getD q 0) = hx at *
    have z0 : (0 : Int) ≤ (q : Int) := by omega
    have z1 : (q : Int) < (m : Int) := by omega
    clear hb3 hr hca
    go_wp2_with fail
    go_ret
    exact ⟨ret_int HR.out.symm, HB3.out⟩
end Go.Proofs.YthbkinopgialmaaGreatDoor
/- The program's leaf: Offer; no condition but those that each row names. -/
namespace Go.Proofs.YthbkinopgialmaaGreatDoor
open Go.RowKit Tsk

theorem find_zero {A : Tab} (h : A.Good) : A.find 0 = none := by
  cases hf : A.find 0 with
  | none => rfl
  | some i =>
    obtain ⟨h1, h2, h3⟩ := find_inv hf
    have h4 := (hd_parts h h1 h2).2.1
    rw [h3] at h4
    have h5 : kOf 0 = 0 := by decide
    have := h.k1
    omega
set_option maxHeartbeats 2000000 in
set_option maxRecDepth 100000 in
theorem loffer_none (S X : Nat → Prop) (B : Nat) (A : Tab) (T : Nat → Tk) (hg : LGood A T) (w : World) (v : Value) (h : Lf S X B w A T v) (now : Int) (hr : rdy A T < 0) :
    Calls Tryz.prog 23 #[v, .int .i64 now] w fun e w' => e = .returned (.tuple #[.int .i64 0, .int .i64 0, .int .i64 0]) ∧ Below w.heap.size w w' := by
  have HRD := Lib.hid (lready S X B A T hg w v h)
  have hrd : rdyH A T = 0 := by unfold rdyH; rw [if_pos hr]
  rw [hrd] at HRD
  obtain ⟨sl, bl, ST, tv, rfl, hc, ht, hb, hS, hj⟩ := h
  have HC := Lib.hid hc
  have HG := Lib.hid (fun W (hb : Below w.heap.size w W) => kget_none ST B A hg.tab (tm T sl) W tv (ht.below hb) 0 (find_zero hg.tab))
  rw [errV_ne (by decide)] at HG
  obtain ⟨b, g1, c1, g2, c2, g3, c3, rfl, _⟩ := ht
  clear hj hg hc hS hb hrd hr
  go_enter Tryz.func23, Tryz.ntmps23
  go_wp2_with fail
  refine HRD.out.mono ?_
  rintro e w0 ⟨rfl, hb0⟩
  have HB0 := Lib.hid hb0
  have hc0 := (hb0.cell (p := ⟨bl, 0, none⟩) (cell_lt HC.out)).trans HC.out
  clear hb0
  go_wp2_with fail
  refine (HG.out w0 HB0.out).mono ?_
  rintro e w1 ⟨rfl, hb1⟩
  have HB1 := Lib.hid (bnext HB0.out hb1)
  clear hb1
  go_wp2_with fail
  refine bodyPost_ret (v := .tuple #[.int .i64 0, .int .i64 0, .int .i64 0]) (by simp [results, Tryz.results23, go_sem]) rfl ⟨rfl, ?_⟩
  exact HB1.out.alloc HB1.out.size _
set_option maxHeartbeats 4000000 in
set_option maxRecDepth 100000 in
theorem loffer_no (S X : Nat → Prop) (B : Nat) (A : Tab) (T : Nat → Tk) (hg : LGood A T) (w : World) (v : Value) (h : Lf S X B w A T v) (hX : ∀ x, S x → X x) (hXw : ∀ x, X x → x < w.heap.size) (now : Int) (i : Nat) (hr : rdy A T = i) (hi : i < 8) (hti0 : A.t i = true) (hE : runE (T i).p (T i).n (T i).f (T i).k now ≠ 0) :
    Calls Tryz.prog 23 #[v, .int .i64 now] w (LfPost S X B w A T v (.tuple #[.int .i64 0, .int .i64 0, .int .i64 0])) := by
  have HLF := Lib.hid h
  have HRD := Lib.hid (fun W (hb : Below w.heap.size w W) => lready S X B A T hg W v (h.below hb))
  have hrd : rdyH A T = A.hd i := by unfold rdyH; rw [hr, if_neg (by omega), Int.toNat_natCast]
  rw [hrd] at HRD
  have hi8 : i < A.gens.length := by rw [hg.len]; exact hi
  have hf : A.find (A.hd i) = some i := find_hd hg.tab hi8 hti0
  obtain ⟨sl, bl, ST, tv, rfl, hc, ht, hb, hS, hj⟩ := h
  have HC := Lib.hid hc
  have HG := Lib.hid (fun W (hb : Below w.heap.size w W) => kget_some ST B A hg.tab (tm T sl) W tv (ht.below hb) (isSl_tm (w := w) hj) (A.hd i) i hf)
  dsimp only [tm] at HG
  have HJ := Lib.hid (hj i).1
  have hok := hg.ok i
  have HXW := Lib.hid hXw
  obtain ⟨⟨q0, cap0, hs, _⟩, _⟩ := hj i
  rw [hs] at HG HJ
  obtain ⟨t, hti⟩ : ∃ t, t = T i := ⟨_, rfl⟩
  rw [← hti] at HG HJ hok hE
  clear hti
  obtain ⟨tp, ts, tn, tf, ⟨kg, ko, kn, kd, kc, kt⟩⟩ := t
  have hn8 := hok.2.1
  dsimp only at HG HJ hn8 hE
  have HRU := Lib.hid (fun W (hb : Below w.heap.size w W) => prun_any tp (.slice q0 tn cap0) tn tf ⟨kg, ko, kn, kd, kc, kt⟩ now W (HJ.out.below hb) (okT_c hok))
  have HST := Lib.hid (fun W (hb : Below w.heap.size w W) p' q n c f k => kset_some ST B A hg.tab (tm T sl) W tv (ht.below hb) (A.hd i) p' q n c f k i hf)
  have HACT := Lib.hid (fun W' (p : Int) (s : Value) (n : Nat) (f : Nat → Jb) (k : Ac) (ht : PKTab ST B W' A (upd (tm T sl) i ⟨p, s, n, f, k⟩) tv) (hk : Keeps ST w W') (hn : JobsX X W' s n f) => Lf.act2 (v := .pointer (some ⟨bl, 0, none⟩)) (T := T) rfl hc hb hS hj hX sN ht hk hn)
  have HTX := Lib.hid (show ∀ x, ST x → X x from fun x hx => hX x (by rw [hS]; exact .inr hx))
  have hrn8 : runN tn (tf 0) ≤ 8 := by unfold runN; split <;> omega
  obtain ⟨b, g1, c1, g2, c2, g3, c3, rfl, _⟩ := ht
  have HN8 := Lib.hid hrn8
  clear hj hg hf hc hs hS hX hb hok hXw hn8 hrd hr hti0 hi8 hi hrn8
  generalize A.hd i = hx at *
  obtain ⟨E, hEE⟩ : ∃ E, E = runE tp tn tf ⟨kg, ko, kn, kd, kc, kt⟩ now := ⟨_, rfl⟩
  rw [← hEE] at HRU hE
  clear hEE
  simp only [if_neg hE] at HRU
  rw [errV_ne hE] at HRU
  go_enter Tryz.func23, Tryz.ntmps23
  go_wp2_with fail
  refine (HRD.out w (Below.refl _ _)).mono ?_
  rintro e w0 ⟨rfl, hb0⟩
  have HB0 := Lib.hid hb0
  have hc0 := (hb0.cell (p := ⟨bl, 0, none⟩) (cell_lt HC.out)).trans HC.out
  clear hb0
  go_wp2_with fail
  refine (HG.out w0 HB0.out).mono ?_
  rintro e w1 ⟨rfl, hb1⟩
  obtain ⟨W1, hW1⟩ : ∃ W1, W1 = w1.alloc (.cells #[.int .i64 tp, .slice q0 tn cap0, .int .i64 kg, .int .i64 ko, .int .i64 kn, .int .i64 kd, .int .i64 kc, .int .i64 kt] KT) := ⟨_, rfl⟩
  have HP1 := Lib.hid (show Below w.heap.size w W1 ∧ HasT W1 w1.heap.size tp (.slice q0 tn cap0) ⟨kg, ko, kn, kd, kc, kt⟩ ∧ w.heap.size ≤ w1.heap.size from by
    rw [hW1]
    have h1 := bnext HB0.out hb1
    exact ⟨h1.alloc h1.size _, hasT_new w1 tp _ ⟨kg, ko, kn, kd, kc, kt⟩, h1.size⟩)
  have HW2 := Lib.hid hW1
  clear hW1 hb1 hc0
  go_upto_region 5 with fail
  rw [← HW2.out]
  obtain ⟨x0, x1, x2, x3, x4, x5, x6, x7⟩ := HP1.out.2.1.cells
  go_wp2_with fail
  refine (HRU.out W1 HP1.out.1).mono ?_
  rintro e w2 ⟨xx, rfl, s2, c2', rfl, ho, hb2⟩
  have HB2 := Lib.hid (bnext HP1.out.1 hb2)
  have HT2 := Lib.hid (HP1.out.2.1.below hb2)
  have HO := Lib.hid ho
  have HBL := Lib.hid (show w.heap.size ≤ w1.heap.size ∧ w1.heap.size < W1.heap.size from ⟨HP1.out.2.2, has_lt HP1.out.2.1⟩)
  clear x0 x1 x2 x3 x4 x5 x6 x7 hb2 ho
  obtain ⟨z0, z1, z2, z3, z4, z5, z6, z7⟩ := HT2.out.cells
  have fr := fun j => has_free HT2.out j
  have hbl := HBL.out.1
  have HBF := Lib.hid (fun v0 v1 v2 v3 v4 v5 v6 v7 => below8 HB2.out hbl v0 v1 v2 v3 v4 v5 v6 v7)
  go_wp2_with fail
  refine bodyPost_ret (v := .tuple #[.int .i64 0, .int .i64 0, .int .i64 0]) (by simp [results, Tryz.results23, go_sem]) rfl ⟨rfl, ?_⟩
  exact ⟨HLF.out.below (HBF.out _ _ _ _ _ _ _ _), Keeps.of_below (HBF.out _ _ _ _ _ _ _ _)⟩
set_option maxHeartbeats 4000000 in
set_option maxRecDepth 100000 in
theorem loffer_yes (S X : Nat → Prop) (B : Nat) (A : Tab) (T : Nat → Tk) (hg : LGood A T) (w : World) (v : Value) (h : Lf S X B w A T v) (hX : ∀ x, S x → X x) (hXw : ∀ x, X x → x < w.heap.size) (now : Int) (i : Nat) (hr : rdy A T = i) (hi : i < 8) (hti0 : A.t i = true) (hE : runE (T i).p (T i).n (T i).f (T i).k now = 0) :
    Calls Tryz.prog 23 #[v, .int .i64 now] w (LfPost S X B w A (upd T i (tkRun (T i) sN now)) v (.tuple #[.int .i64 (A.hd i), .int .i64 (markS (runW ((T i).f 0))), .int .i64 (runL ((T i).f 0) now)])) := by
  have HLF := Lib.hid h
  have HRD := Lib.hid (fun W (hb : Below w.heap.size w W) => lready S X B A T hg W v (h.below hb))
  have hrd : rdyH A T = A.hd i := by unfold rdyH; rw [hr, if_neg (by omega), Int.toNat_natCast]
  rw [hrd] at HRD
  have hi8 : i < A.gens.length := by rw [hg.len]; exact hi
  have hf : A.find (A.hd i) = some i := find_hd hg.tab hi8 hti0
  obtain ⟨sl, bl, ST, tv, rfl, hc, ht, hb, hS, hj⟩ := h
  have HC := Lib.hid hc
  have HG := Lib.hid (fun W (hb : Below w.heap.size w W) => kget_some ST B A hg.tab (tm T sl) W tv (ht.below hb) (isSl_tm (w := w) hj) (A.hd i) i hf)
  dsimp only [tm] at HG
  have HJ := Lib.hid (hj i).1
  have hok := hg.ok i
  have HXW := Lib.hid hXw
  obtain ⟨⟨q0, cap0, hs, _⟩, _⟩ := hj i
  rw [hs] at HG HJ
  obtain ⟨t, hti⟩ : ∃ t, t = T i := ⟨_, rfl⟩
  rw [← hti] at HG HJ hok hE ⊢
  clear hti
  obtain ⟨tp, ts, tn, tf, ⟨kg, ko, kn, kd, kc, kt⟩⟩ := t
  have hn8 := hok.2.1
  dsimp only at HG HJ hn8 hE ⊢
  have HRU := Lib.hid (fun W (hb : Below w.heap.size w W) => prun_any tp (.slice q0 tn cap0) tn tf ⟨kg, ko, kn, kd, kc, kt⟩ now W (HJ.out.below hb) (okT_c hok))
  have HST := Lib.hid (fun W (hb : Below w.heap.size w W) p' q n c f k => kset_some ST B A hg.tab (tm T sl) W tv (ht.below hb) (A.hd i) p' q n c f k i hf)
  have HACT := Lib.hid (fun W' (p : Int) (s : Value) (n : Nat) (f : Nat → Jb) (k : Ac) (ht : PKTab ST B W' A (upd (tm T sl) i ⟨p, s, n, f, k⟩) tv) (hk : Keeps ST w W') (hn : JobsX X W' s n f) => Lf.act2 (v := .pointer (some ⟨bl, 0, none⟩)) (T := T) rfl hc hb hS hj hX sN ht hk hn)
  have HTX := Lib.hid (show ∀ x, ST x → X x from fun x hx => hX x (by rw [hS]; exact .inr hx))
  have hrn8 : runN tn (tf 0) ≤ 8 := by unfold runN; split <;> omega
  obtain ⟨b, g1, c1, g2, c2, g3, c3, rfl, _⟩ := ht
  have HN8 := Lib.hid hrn8
  clear hj hg hf hc hs hS hX hb hok hXw hn8 hrd hr hti0 hi8 hi hrn8
  generalize A.hd i = hx at *
  rw [hE] at HRU
  simp only [if_true, errV_0] at HRU
  unfold tkRun
  dsimp only
  clear hE
  have HMK := Lib.hid (fun W => lmark (runW (tf 0)) W)
  generalize runW (tf 0) = wt at *
  generalize runL (tf 0) now = lt at *
  obtain ⟨kk, hkk⟩ : ∃ kk, kk = runK ⟨kg, ko, kn, kd, kc, kt⟩ (tf 0) now := ⟨_, rfl⟩
  rw [← hkk] at HRU ⊢
  clear hkk
  obtain ⟨rg, ro, rnn, rd, rc, rt⟩ := kk
  generalize runN tn (tf 0) = rn at *
  generalize runF tf = rf at *
  generalize hmt : markS wt = mt at *
  clear hmt
  go_enter Tryz.func23, Tryz.ntmps23
  go_wp2_with fail
  refine (HRD.out w (Below.refl _ _)).mono ?_
  rintro e w0 ⟨rfl, hb0⟩
  have HB0 := Lib.hid hb0
  have hc0 := (hb0.cell (p := ⟨bl, 0, none⟩) (cell_lt HC.out)).trans HC.out
  clear hb0
  go_wp2_with fail
  refine (HG.out w0 HB0.out).mono ?_
  rintro e w1 ⟨rfl, hb1⟩
  obtain ⟨W1, hW1⟩ : ∃ W1, W1 = w1.alloc (.cells #[.int .i64 tp, .slice q0 tn cap0, .int .i64 kg, .int .i64 ko, .int .i64 kn, .int .i64 kd, .int .i64 kc, .int .i64 kt] KT) := ⟨_, rfl⟩
  have HP1 := Lib.hid (show Below w.heap.size w W1 ∧ HasT W1 w1.heap.size tp (.slice q0 tn cap0) ⟨kg, ko, kn, kd, kc, kt⟩ ∧ w.heap.size ≤ w1.heap.size from by
    rw [hW1]
    have h1 := bnext HB0.out hb1
    exact ⟨h1.alloc h1.size _, hasT_new w1 tp _ ⟨kg, ko, kn, kd, kc, kt⟩, h1.size⟩)
  have HW2 := Lib.hid hW1
  clear hW1 hb1 hc0
  go_upto_region 5 with fail
  rw [← HW2.out]
  obtain ⟨x0, x1, x2, x3, x4, x5, x6, x7⟩ := HP1.out.2.1.cells
  go_wp2_with fail
  refine (HRU.out W1 HP1.out.1).mono ?_
  rintro e w2 ⟨xx, rfl, s2, c2', rfl, ho, hb2⟩
  have HB2 := Lib.hid (bnext HP1.out.1 hb2)
  have HT2 := Lib.hid (HP1.out.2.1.below hb2)
  have HO := Lib.hid ho
  have HBL := Lib.hid (show w.heap.size ≤ w1.heap.size ∧ w1.heap.size < W1.heap.size from ⟨HP1.out.2.2, has_lt HP1.out.2.1⟩)
  clear x0 x1 x2 x3 x4 x5 x6 x7 hb2 ho
  obtain ⟨z0, z1, z2, z3, z4, z5, z6, z7⟩ := HT2.out.cells
  have fr := fun j => has_free HT2.out j
  have HJ3 := Lib.hid (fun (W3 : World) (h3 : W3 = ((((((((w2.setCell ⟨w1.heap.size, 0, none⟩ (.int .i64 tp)).setCell ⟨w1.heap.size, 1, none⟩ (.slice s2 rn c2')).setCell ⟨w1.heap.size, 2, none⟩ (.int .i64 rg)).setCell ⟨w1.heap.size, 3, none⟩ (.int .i64 ro)).setCell ⟨w1.heap.size, 4, none⟩ (.int .i64 rnn)).setCell ⟨w1.heap.size, 5, none⟩ (.int .i64 rd)).setCell ⟨w1.heap.size, 6, none⟩ (.int .i64 rc)).setCell ⟨w1.heap.size, 7, none⟩ (.int .i64 rt))) =>
    show Below w.heap.size w W3 ∧ HasT W3 w1.heap.size tp (.slice s2 rn c2') ⟨rg, ro, rnn, rd, rc, rt⟩ ∧ JobsX X W3 (.slice s2 rn c2') rn rf from by
      rw [h3]
      have hbl := HBL.out
      exact ⟨below8 HB2.out hbl.1 _ _ _ _ _ _ _ _, HasT.set8 (k' := ⟨rg, ro, rnn, rd, rc, rt⟩) HT2.out, JobsX.own (own_low8 HO.out hbl.2 _ _ _ _ _ _ _ _) (by have := HN8.out; omega) (fun y hy => by have := HXW.out y hy; omega)⟩)
  go_upto_region 8 with fail
  obtain ⟨W3, hW3⟩ : ∃ W3, W3 = ((((((((w2.setCell ⟨w1.heap.size, 0, none⟩ (.int .i64 tp)).setCell ⟨w1.heap.size, 1, none⟩ (.slice s2 rn c2')).setCell ⟨w1.heap.size, 2, none⟩ (.int .i64 rg)).setCell ⟨w1.heap.size, 3, none⟩ (.int .i64 ro)).setCell ⟨w1.heap.size, 4, none⟩ (.int .i64 rnn)).setCell ⟨w1.heap.size, 5, none⟩ (.int .i64 rd)).setCell ⟨w1.heap.size, 6, none⟩ (.int .i64 rc)).setCell ⟨w1.heap.size, 7, none⟩ (.int .i64 rt)) := ⟨_, rfl⟩
  rw [← hW3]
  have H3 := Lib.hid (HJ3.out W3 hW3)
  clear hW3 z0 z1 z2 z3 z4 z5 z6 z7 fr HJ3
  obtain ⟨x0, x1, x2, x3, x4, x5, x6, x7⟩ := H3.out.2.1.cells
  have hc3 := (H3.out.1.cell (p := ⟨bl, 0, none⟩) (cell_lt HC.out)).trans HC.out
  go_region_law (go_simp; go_at_call 38; refine (HST.out _ H3.out.1.drew tp s2 rn c2' rf ⟨rg, ro, rnn, rd, rc, rt⟩).mono ?_; rintro e w4 ⟨rfl, ht4, hk4⟩)
  all_goals
    have HR := Lib.hid (HACT.out w4 tp _ rn rf ⟨rg, ro, rnn, rd, rc, rt⟩ ht4 (Keeps.trans (Keeps.of_below H3.out.1.drew) hk4) ((H3.out.2.2.below below_drewOne).keeps hk4 HTX.out))
    clear ht4 hk4
    go_wp2_with fail
    refine (HMK.out _).mono ?_
    rintro e w5 ⟨rfl, rfl⟩
    go_wp2_with fail
    refine bodyPost_ret (v := .tuple #[.int .i64 hx, .int .i64 mt, .int .i64 lt]) (by simp [results, Tryz.results23, go_sem]) rfl ⟨rfl, ?_⟩
    exact ⟨HR.out.1, HR.out.2⟩
theorem loffer (S X : Nat → Prop) (B : Nat) (A : Tab) (T : Nat → Tk) (hg : LGood A T) (w : World) (v : Value) (h : Lf S X B w A T v) (hX : ∀ x, S x → X x) (hXw : ∀ x, X x → x < w.heap.size) (now : Int) :
    Calls Tryz.prog 23 #[v, .int .i64 now] w (LfPost S X B w A (offT A T now) v (.tuple #[.int .i64 (offH A T now), .int .i64 (offM A T now), .int .i64 (offL A T now)])) := by
  rcases off_ways A T now with ⟨hr, e1, e2, e3, e4⟩ | ⟨i, hr, hi, ht, _, ⟨hE, e1, e2, e3, e4⟩ | ⟨hE, e1, e2, e3, e4⟩⟩
  · rw [e1, e2, e3, e4]
    exact (loffer_none S X B A T hg w v h now hr).mono fun e w' ⟨he, hb⟩ => ⟨he, h.below hb, Keeps.of_below hb⟩
  · rw [e1, e2, e3, e4]
    exact loffer_no S X B A T hg w v h hX hXw now i hr hi ht hE
  · rw [e1, e2, e3, e4]
    exact loffer_yes S X B A T hg w v h hX hXw now i hr hi ht hE
end Go.Proofs.YthbkinopgialmaaGreatDoor
/- The program's leaf: Save; no condition but those that each row names. -/
namespace Go.Proofs.YthbkinopgialmaaGreatDoor
open Go.RowKit Tsk

/-- The tasks that are told. -/
def toldF (A : Tab) (T : Nat → Tk) : Nat → Tk := fun j => T (A.idxs.getD j 0)
/-- What Save answers. -/
def SavePost (w : World) (A : Tab) (T : Nat → Tk) (e : Ending) (w' : World) : Prop :=
  ∃ gs ts g c sl, e = .returned (.tuple #[gs, ts, .slice (some ⟨g, 0, none⟩) A.idxs.length c]) ∧ Lst (fun _ => False) w' gs (ints A.gens) ∧ Lst (fun _ => False) w' ts (bools A.taken) ∧ Tasks w' (.slice (some ⟨g, 0, none⟩) A.idxs.length c) A.idxs.length (tm (toldF A T) sl) ∧ Below w.heap.size w w'
/-- The row of tasks while each gets jobs of its own. -/
def SaveI (w : World) (F : Nat → Tk) (m g c : Nat) (wr : World) : Prop :=
  ∃ sl, wr.ownsRow w.heap.size KT 8 (.slice (some ⟨g, 0, none⟩) m c) m (tkL (tm F sl) m) ∧ (∀ j, j < m → JobsX (fun x => x = g) wr (sl j) (F j).n (F j).f) ∧ Below w.heap.size w wr
theorem SaveI.bel {w wr : World} {F : Nat → Tk} {m g c : Nat} (h : SaveI w F m g c wr) : Below w.heap.size w wr := by
  obtain ⟨sl, _, _, hb⟩ := h
  exact hb
theorem SaveI.fin {w wr : World} {F : Nat → Tk} {m g c : Nat} (h : SaveI w F m g c wr) (hm : m ≤ 4096) : ∃ sl, Tasks wr (.slice (some ⟨g, 0, none⟩) m c) m (tm F sl) := by
  obtain ⟨sl, ho, hj, _⟩ := h
  exact ⟨sl, own_tasks ho (by omega) fun j hlt => (hj j hlt).1⟩
theorem tm_upd2 (F : Nat → Tk) (sl : Nat → Value) (i : Nat) (s : Value) : tm F (upd sl i s) = upd (tm F sl) i ⟨(F i).p, s, (F i).n, (F i).f, (F i).k⟩ := by
  funext j
  unfold tm upd
  by_cases e : j = i
  · subst e; simp
  · simp [e]
theorem far8 {S : Nat → Prop} {w0 w : World} (h : Keeps S w0 w) (g i : Nat) (v0 v1 v2 v3 v4 v5 v6 v7 : Value) (hS : S g ∨ w0.heap.size ≤ g) : Keeps S w0 ((((((((w.setCell ⟨g, i * 8, none⟩ v0).setCell ⟨g, i * 8 + 1, none⟩ v1).setCell ⟨g, i * 8 + 2, none⟩ v2).setCell ⟨g, i * 8 + 3, none⟩ v3).setCell ⟨g, i * 8 + 4, none⟩ v4).setCell ⟨g, i * 8 + 5, none⟩ v5).setCell ⟨g, i * 8 + 6, none⟩ v6).setCell ⟨g, i * 8 + 7, none⟩ v7) :=
  (((((((h.setCell _ _ hS).setCell _ _ hS).setCell _ _ hS).setCell _ _ hS).setCell _ _ hS).setCell _ _ hS).setCell _ _ hS).setCell _ _ hS
set_option maxHeartbeats 4000000 in
set_option maxRecDepth 100000 in
theorem lsave (S X : Nat → Prop) (B : Nat) (A : Tab) (T : Nat → Tk) (hg : LGood A T) (w : World) (v : Value) (h : Lf S X B w A T v) :
    Calls Tryz.prog 32 #[v] w (SavePost w A T) := by
  obtain ⟨sl, bl, ST, tv, rfl, hc, ht, hb, rfl, hj⟩ := h
  have hn8 : A.idxs.length ≤ 8 := by have := idxTo_len A.t A.n; have e8 : A.n = 8 := hg.len; show (idxTo A.t A.n).length ≤ 8; omega
  have HC := Lib.hid hc
  have HSL := Lib.hid (kslots (fun _ => False) ST B A hg.tab (tm T sl) w tv ht (fun _ k => k.elim))
  have HAL := Lib.hid (fun W (hb : Below w.heap.size w W) => kall (fun _ => False) ST B A hg.tab (tm T sl) W tv (ht.below hb) (fun _ k => k.elim))
  have HLI := Lib.hid (fun W (hb : Below w.heap.size w W) av ha => llist ST (fun _ => False) B A (tm T sl) hg.tab (isSl_tm hj) W bl tv ((hb.cell (p := ⟨bl, 0, none⟩) (cell_lt hc)).trans hc) (ht.below hb) av ha)
  have HJ := Lib.hid (fun j => (hj (A.idxs.getD j 0)).1)
  have HOK := Lib.hid (show ∀ j, (toldF A T j).n ≤ 8 from fun j => (hg.ok _).2.1)
  have HTF := Lib.hid (show ∀ j, j < A.idxs.length → listF A (tm T sl) A.idxs.length j = tm (toldF A T) (fun j => sl (A.idxs.getD j 0)) j from fun j hj => by unfold listF; rw [if_pos hj]; rfl)
  obtain ⟨b, g1, c1, g2, c2, g3, c3, rfl, _⟩ := ht
  unfold SavePost
  unfold ListPost at HLI
  clear hj hg hb
  go_enter Tryz.func32, Tryz.ntmps32
  go_wp2_with fail
  refine HSL.out.mono ?_
  rintro e w1 ⟨gs, ts, rfl, hl1, hl2, hb1⟩
  have HB1 := Lib.hid hb1
  have HL1 := Lib.hid hl1
  have HL2 := Lib.hid hl2
  have hc1 := (hb1.cell (p := ⟨bl, 0, none⟩) (cell_lt HC.out)).trans HC.out
  clear hl1 hl2 hb1 hc
  go_wp2_with fail
  refine (HAL.out w1 HB1.out).mono ?_
  rintro e w2 ⟨r, rfl, hl, hb2⟩
  have HB2 := Lib.hid (bnext HB1.out hb2)
  have HB2' := Lib.hid hb2
  have HR := Lib.hid hl
  clear hl hb2 hc1
  go_wp2_with fail
  refine (HLI.out w2 HB2.out r HR.out).mono ?_
  rintro e w3 ⟨g, c, rfl, ho, hb3⟩
  have HB3 := Lib.hid (bnext HB2.out hb3)
  have HB3' := Lib.hid (bnext HB2'.out hb3)
  have HG := Lib.hid (show w2.heap.size ≤ g ∧ g < w3.heap.size from ho.lt g rfl)
  have HS0 := Lib.hid (show SaveI w (toldF A T) A.idxs.length g c w3 from ⟨fun j => sl (A.idxs.getD j 0), by
      rw [tkL_congr (fun j hj => (HTF.out j hj))] at ho
      exact own_base2 ho HB2.out.size, fun j hj => ⟨(HJ.out j).below HB3.out, fun a n' c' e h0 k => by
        have h1 := (HJ.out j).lt a n' c' e (by
          obtain ⟨p0, c0, e0, _⟩ := HJ.out j
          rw [show sl (A.idxs.getD j 0) = .slice (some a) n' c' from e] at e0
          cases e0
          exact h0)
        have h2 := HB2.out.size
        have h3 := HG.out.1
        simp only at k
        omega⟩, HB3.out⟩)
  generalize hm : A.idxs.length = m at *
  have HM := Lib.hid hm
  clear ho hb3 hm HJ HTF
  go_wp2_with fail
  go_loopw [27] (fun iv wr => ∃ i : Nat, iv = .int .i64 i ∧ i ≤ m ∧ Hid (SaveI w (toldF A T) m g c wr) ∧ Hid (Below w1.heap.size w1 wr)) (fun iv _ => m - (intOf iv).toNat)
  case atStart => exact ⟨0, rfl, Nat.zero_le _, HS0, HB3'⟩
  case round =>
    obtain ⟨i, rfl, hi, HS, HBW⟩ := hrel
    by_cases him : i < m
    · obtain ⟨sr, ho, hj, hbr⟩ := HS.out
      have HO := Lib.hid ho
      have HJR := Lib.hid hj
      have HBR := Lib.hid hbr
      have q := fun (r : Nat) (hr : r < 8) => (World.ownsRow.cellAt ho (i * 8 + r) (by omega)).trans (tkL_at (tm (toldF A T) sr) him r hr)
      have q0 := q 0 (by omega)
      have q1 := q 1 (by omega)
      have q2 := q 2 (by omega)
      have q3 := q 3 (by omega)
      have q4 := q 4 (by omega)
      have q5 := q 5 (by omega)
      have q6 := q 6 (by omega)
      have q7 := q 7 (by omega)
      rw [Nat.add_zero] at q0
      have hJi := hj i him
      have hni := HOK.out i
      obtain ⟨⟨p0, c0, e0, _⟩, _⟩ := hJi
      have HJI := Lib.hid (hj i him)
      have z0 : (0 : Int) ≤ (i : Int) := by omega
      have z1 : (i : Int) < (m : Int) := by omega
      obtain ⟨t, hti⟩ : ∃ t, t = toldF A T i := ⟨_, rfl⟩
      have HTI := Lib.hid hti
      have er : ∀ r, prtT (tm (toldF A T) sr i) r = prtT ⟨t.p, sr i, t.n, t.f, t.k⟩ r := fun r => by rw [hti]; rfl
      rw [er] at q0 q1 q2 q3 q4 q5 q6 q7
      rw [← hti] at HJI hni e0
      rw [e0] at q0 q1 q2 q3 q4 q5 q6 q7 HJI
      clear q er hti hj ho hbr e0
      obtain ⟨tp, ts', tn, tf, ⟨kg, ko, kn, kd, kc, kt⟩⟩ := t
      simp only [prtT, if_true, if_false, Nat.reduceEqDiff, Nat.one_ne_zero] at q0 q1 q2 q3 q4 q5 q6 q7
      dsimp only at HJI hni
      have HTW := Lib.hid (fun W (hb : Below wr.heap.size wr W) => ltwin tp (.slice p0 tn c0) tn tf ⟨kg, ko, kn, kd, kc, kt⟩ W (HJI.out.1.below hb) (by omega))
      have HNI := Lib.hid hni
      clear hni
      go_wp2_with fail
      refine (HTW.out _ ((Below.refl _ _).alloc (Nat.le_refl _) _)).mono ?_
      rintro e w5 ⟨y, rfl, s5, c5, rfl, ho5, hb5⟩
      have HB5 := Lib.hid (bnext ((Below.refl wr.heap.size wr).alloc (Nat.le_refl _) _) hb5)
      have HO5 := Lib.hid ho5
      have HR5 := Lib.hid (own_under HO.out HB5.out)
      have u := fun (r : Nat) (hr : r < 8) => (World.ownsRow.cellAt HR5.out (i * 8 + r) (by omega)).trans (tkL_at (tm (toldF A T) sr) him r hr)
      have u0 := u 0 (by omega)
      have u1 := u 1 (by omega)
      have u2 := u 2 (by omega)
      have u3 := u 3 (by omega)
      have u4 := u 4 (by omega)
      have u5 := u 5 (by omega)
      have u6 := u 6 (by omega)
      have u7 := u 7 (by omega)
      rw [Nat.add_zero] at u0
      have fr := fun j => World.ownsRow.frozenAt HR5.out j
      generalize prtT (tm (toldF A T) sr i) 0 = y0 at *
      generalize prtT (tm (toldF A T) sr i) 1 = y1 at *
      generalize prtT (tm (toldF A T) sr i) 2 = y2 at *
      generalize prtT (tm (toldF A T) sr i) 3 = y3 at *
      generalize prtT (tm (toldF A T) sr i) 4 = y4 at *
      generalize prtT (tm (toldF A T) sr i) 5 = y5 at *
      generalize prtT (tm (toldF A T) sr i) 6 = y6 at *
      generalize prtT (tm (toldF A T) sr i) 7 = y7 at *
      have HRG := Lib.hid (show w.heap.size ≤ g ∧ g < wr.heap.size ∧ w1.heap.size ≤ g from ⟨(HO.out.lt g rfl).1, (HO.out.lt g rfl).2, by have h1 := HG.out.1; have h2 := HB2'.out.size; omega⟩)
      clear u ho5 hb5 q0 q1 q2 q3 q4 q5 q6 q7
      go_wp2_with fail
      go_roundw
      case rel =>
        refine ⟨i + 1, by go_num, by omega, Lib.hid ⟨upd sr i (.slice s5 tn c5), ?_, fun j hj => ?_, ?_⟩, Lib.hid (below_set8 (bnext HBW.out HB5.out) HRG.out.2.2 _ _ _ _ _ _ _ _ _)⟩
        · rw [tm_upd2, ← HTI.out]
          exact own_set8 HR5.out i ⟨tp, .slice s5 tn c5, tn, tf, ⟨kg, ko, kn, kd, kc, kt⟩⟩
        · by_cases e : j = i
          · subst e
            rw [upd_same, ← HTI.out]
            have h1 : JobsX (fun x => x = g) w5 (.slice s5 tn c5) tn tf := JobsX.own HO5.out (by have := HNI.out; omega) (fun x hx => by have := HRG.out.2.1; simp; omega)
            exact h1.keeps (far8 (Keeps.refl (fun x => x = g) w5) g j _ _ _ _ _ _ _ _ (.inl rfl)) (fun _ h => h)
          · rw [upd_ne _ e]
            exact ((HJR.out j hj).below HB5.out).keeps (far8 (Keeps.refl (fun x => x = g) w5) g i _ _ _ _ _ _ _ _ (.inl rfl)) (fun _ h => h)
        · exact below_set8 (bnext HBR.out HB5.out) HRG.out.1 _ _ _ _ _ _ _ _ _
      case measure => simp [intOf]; omega
    · go_wp2_with fail
      obtain ⟨sf, hf⟩ := HS.out.fin (by omega)
      have em := HM.out
      subst em
      refine bodyPost_ret (v := .tuple #[gs, ts, .slice (some ⟨g, 0, none⟩) A.idxs.length c]) (by simp [results, Tryz.results32, go_sem]) rfl ?_
      exact ⟨gs, ts, g, c, sf, rfl, HL1.out.below HBW.out, HL2.out.below HBW.out, hf, HS.out.bel⟩
end Go.Proofs.YthbkinopgialmaaGreatDoor
/- The program's leaf: Load, Clone; no condition but those that each row names. -/
namespace Go.Proofs.YthbkinopgialmaaGreatDoor
open Go.RowKit Tsk

/-- May slots and tasks be a leaf? -/
def okLoad (gens : List Int) (taken : List Bool) (m : Nat) (TT : Nat → Tk) : Prop := gens.length = 8 ∧ ((taken.length = gens.length ∧ standB gens taken gens.length) ∧ m = rank taken taken.length) ∧ ∀ j, j < m → okTk (TT j)
theorem ok8_load {gens : List Int} {taken : List Bool} {L : List Int} (h8 : gens.length = 8) (hl : taken.length = gens.length) (ho : standB gens taken gens.length) (hL : L.length = 8) : (loadTo 2 gens taken L).Good := by
  have h := load_good (kind := 2) (gens := gens) (taken := taken) (things := []) (by omega) (by omega) (by omega) (by omega) hl ho
  exact ⟨h.k1, h.k3, h.n1, h.n4, h.lt, by show L.length = gens.length; omega, h.g1, h.gt⟩
theorem rank_idxs {A : Tab} {j : Nat} (hj : j < A.idxs.length) : rank A.taken (A.idxs.getD j 0) = j := by
  obtain ⟨h1, h2⟩ := idxs_at hj
  have h3 := idxs_rank A h1 h2
  have hnd : A.idxs.Nodup := List.Pairwise.filter _ List.nodup_range
  have h4 : A.idxs[j]? = some (A.idxs.getD j 0) := by rw [List.getD_eq_getElem?_getD, List.getElem?_eq_getElem hj]; rfl
  have h5 : rank A.taken (A.idxs.getD j 0) < A.idxs.length := (List.getElem?_eq_some_iff.1 h3).1
  exact (List.getElem?_inj h5 hnd).1 (h3.trans h4.symm)
set_option maxHeartbeats 2000000 in
set_option maxRecDepth 100000 in
theorem lload_no1 (gens : List Int) (v x y : Value) (w : World) (hv : Lst (fun _ => False) w v (ints gens)) (h8 : ¬ gens.length = 8) :
    Calls Tryz.prog 10 #[v, x, y] w fun e w' => e = .returned (.tuple #[.pointer none, errV 270]) ∧ Below w.heap.size w w' := by
  obtain ⟨p, cp, rfl, _, _⟩ := hv
  rw [ints_len]
  have hd : ((gens.length : Int) != 8) = true := by rw [bne_iff_ne]; omega
  have hd2 : ¬ gens.length = 8 := h8
  go_enter Tryz.func10, Tryz.ntmps10
  go_wp2_with fail
  go_ret2
  exact ⟨rfl, Below.refl _ _⟩
set_option maxHeartbeats 2000000 in
set_option maxRecDepth 100000 in
theorem lload_no2 (gens : List Int) (taken : List Bool) (m : Nat) (TT : Nat → Tk) (v x y : Value) (w : World) (hv : Lst (fun _ => False) w v (ints gens)) (hx : Lst (fun _ => False) w x (bools taken)) (hy : Tasks w y m TT) (h8 : gens.length = 8) (h : ¬ ((taken.length = gens.length ∧ standB gens taken gens.length) ∧ m = rank taken taken.length)) :
    Calls Tryz.prog 10 #[v, x, y] w fun e w' => e = .returned (.tuple #[.pointer none, errV 270]) ∧ Below w.heap.size w w' := by
  have HK := Lib.hid (kload_no2 (fun _ => False) 2 gens taken m TT v x y w hv hx hy (by omega) (by omega) (by omega) (by omega) h)
  obtain ⟨p, cp, rfl, _, _⟩ := hv
  rw [ints_len] at HK ⊢
  rw [h8] at HK ⊢
  clear h h8 hx hy
  go_enter Tryz.func10, Tryz.ntmps10
  go_wp2_with fail
  refine HK.out.mono ?_
  rintro e w1 ⟨rfl, hb⟩
  have HB := Lib.hid hb
  clear hb
  go_wp2_with fail
  go_ret2
  exact ⟨rfl, HB.out⟩
/-- While the tasks get jobs of their own: the table, the slots' jobs in none of its blocks, those of the slots that are done new. -/
def LoadI (w : World) (A : Tab) (T : Nat → Tk) (ST : Nat → Prop) (tv : Value) (k : Nat) (wr : World) : Prop :=
  ∃ sl, PKTab ST w.heap.size wr A (tm T sl) tv ∧ (∀ i, JobsX (fun x => ST x ∨ (x < w.heap.size ∧ (A.t i = false ∨ rank A.taken i < k))) wr (sl i) (T i).n (T i).f) ∧ Below w.heap.size w wr
theorem LoadI.bel {w wr : World} {A : Tab} {T : Nat → Tk} {ST : Nat → Prop} {tv : Value} {k : Nat} (h : LoadI w A T ST tv k wr) : Below w.heap.size w wr := by
  obtain ⟨_, _, _, hb⟩ := h
  exact hb
theorem LoadI.under {w wr w' : World} {A : Tab} {T : Nat → Tk} {ST : Nat → Prop} {tv : Value} {k : Nat} (h : LoadI w A T ST tv k wr) (hb : Below wr.heap.size wr w') : LoadI w A T ST tv k w' := by
  obtain ⟨sl, h1, h2, h3⟩ := h
  exact ⟨sl, h1.below hb, fun i => (h2 i).below hb, bnext h3 hb⟩
theorem t_len2 {A : Tab} (h : A.Good) {j : Nat} (hj : A.t j = true) : j < A.gens.length := by
  rw [← h.lt]
  unfold Tab.t at hj
  rcases Nat.lt_or_ge j A.taken.length with k | k
  · exact k
  · rw [List.getD_eq_getElem?_getD, List.getElem?_eq_none k] at hj; cases hj
theorem LoadI.start {w w1 : World} {A : Tab} {taken : List Bool} {TT : Nat → Tk} {m n8 : Nat} {ST : Nat → Prop} {tv y : Value} (hA : A.taken = taken) (h : PKTab ST w.heap.size w1 A (fillT taken TT n8) tv) (hb : Below w.heap.size w w1) (hy : Tasks w y m TT) (hr : ∀ i, A.t i = true → rank taken i < m) : LoadI w A (fillT taken TT n8) ST tv 0 w1 := by
  subst hA
  refine ⟨fun i => (fillT A.taken TT n8 i).s, h, fun i => ?_, hb⟩
  show JobsX _ w1 (fillT A.taken TT n8 i).s (fillT A.taken TT n8 i).n (fillT A.taken TT n8 i).f
  by_cases c : i < n8 ∧ A.taken.getD i false = true
  · have e1 : fillT A.taken TT n8 i = TT (rank A.taken i) := if_pos c
    rw [e1]
    obtain ⟨p, cap, rfl, _, hc⟩ := hy
    obtain ⟨b, off, _, _, _, _, _, _, _, _, _, hJ⟩ := hc (rank A.taken i) (hr i c.2)
    refine ⟨hJ.below hb, fun a n' c' e h0 k => ?_⟩
    have h1 := hJ.lt a n' c' e (by
      obtain ⟨p0, c0, e0, _⟩ := hJ
      rw [e] at e0
      cases e0
      exact h0)
    rcases k with k | ⟨_, k | k⟩
    · have := (h.lt _ k).1; omega
    · have : A.t i = true := c.2
      rw [this] at k; cases k
    · omega
  · have e1 : fillT A.taken TT n8 i = tk0 := if_neg c
    rw [e1]
    exact JobsX.nil _ _ _
theorem LoadI.step {w wr w5 w6 : World} {A : Tab} {T : Nat → Tk} {ST : Nat → Prop} {tv : Value} {k : Nat} (h : LoadI w A T ST tv k wr) (hg : A.Good) {sl : Nat → Value} (hj : ∀ i, JobsX (fun x => ST x ∨ (x < w.heap.size ∧ (A.t i = false ∨ rank A.taken i < k))) wr (sl i) (T i).n (T i).f) (h5 : Below wr.heap.size wr w5) (hST : ∀ x, ST x → x < wr.heap.size)
    {p : Int} {s : Value} {n : Nat} {f : Nat → Jb} {kk : Ac} (hT : T (A.idxs.getD k 0) = ⟨p, s, n, f, kk⟩) {s' : Value} (ho : JobsO wr.heap.size w5 s' n f) (hn : n ≤ 9223372036854775807) (ht : PKTab ST w.heap.size w6 A (upd (tm T sl) (A.idxs.getD k 0) ⟨p, s', n, f, kk⟩) tv) (hkp : Keeps ST w5 w6) : LoadI w A T ST tv (k + 1) w6 := by
  have hb := h.bel
  have hbel : Below w.heap.size w w6 := below_keeps (bnext hb h5) hkp (fun x hx => (ht.lt x hx).1)
  refine ⟨upd sl (A.idxs.getD k 0) s', by rw [tm_upd2, hT]; exact ht, fun i => ?_, hbel⟩
  by_cases e : i = A.idxs.getD k 0
  · rw [e, upd_same, hT]
    have h1 : JobsX (fun x => ST x ∨ x < w.heap.size) w5 s' n f := JobsX.own ho hn (fun x hx => by
      rcases hx with hx | hx
      · exact hST x hx
      · have := hb.size; omega)
    exact (h1.mono (fun x _ hx => by rcases hx with hx | hx; exact .inl hx; exact .inr hx.1)).keeps hkp (fun x hx => .inl hx)
  · rw [upd_ne _ e]
    refine (((hj i).below h5).mono (fun x _ hx => ?_)).keeps hkp (fun x hx => .inl hx)
    rcases hx with hx | ⟨hx, hq | hq⟩
    · exact .inl hx
    · exact .inr ⟨hx, .inl hq⟩
    · refine .inr ⟨hx, ?_⟩
      cases hti : A.t i with
      | false => exact .inl rfl
      | true =>
        right
        rcases Nat.lt_or_ge (rank A.taken i) k with q | q
        · exact q
        · exfalso
          have e2 : rank A.taken i = k := by omega
          have h3 := idxs_rank A (t_len2 hg hti) hti
          rw [e2] at h3
          refine e ?_
          rw [List.getD_eq_getElem?_getD, h3]
          rfl
/-- What Load answers of what may be. -/
def LoadPost (w : World) (A : Tab) (T : Nat → Tk) (e : Ending) (w' : World) : Prop :=
  ∃ S v, e = .returned (.tuple #[v, .nilIface]) ∧ (∀ X : Nat → Prop, (∀ x, X x → x < w.heap.size) → Lf S (fun x => X x ∨ S x) w.heap.size w' A T v) ∧ Below w.heap.size w w'
theorem LoadI.fin {w wr : World} {A : Tab} {T : Nat → Tk} {ST : Nat → Prop} {tv : Value} {m : Nat} (h : LoadI w A T ST tv m wr) (hr : ∀ i, A.t i = true → rank A.taken i < m) : LoadPost w A T (.returned (.tuple #[.pointer (some ⟨wr.heap.size, 0, none⟩), .nilIface])) (wr.alloc (.cells #[tv] 63)) := by
  obtain ⟨sl, h1, h2, h3⟩ := h
  have hb : Below wr.heap.size wr (wr.alloc (.cells #[tv] 63)) := (Below.refl _ _).alloc (Nat.le_refl _) _
  refine ⟨fun x => x = wr.heap.size ∨ ST x, _, rfl, fun X hX => ⟨sl, wr.heap.size, ST, tv, rfl, by simp, h1.below hb, ⟨h3.size, fun k => by have := (h1.lt _ k).2; omega⟩, rfl, fun i => ?_⟩, h3.alloc h3.size _⟩
  refine ((h2 i).mono fun x hx hy => ?_).below hb
  rcases hy with hy | hy | hy
  · refine .inr ⟨hX x hy, ?_⟩
    cases hti : A.t i with
    | false => exact .inl rfl
    | true => exact .inr (hr i hti)
  · omega
  · exact .inl hy
def LoadAny (w : World) (ok : Prop) (A : Tab) (T : Nat → Tk) (e : Ending) (w' : World) : Prop := (ok ∧ LoadPost w A T e w') ∨ (¬ ok ∧ e = .returned (.tuple #[.pointer none, errV 270]) ∧ Below w.heap.size w w')
set_option maxHeartbeats 4000000 in
set_option maxRecDepth 100000 in
theorem lload_mid (gens : List Int) (taken : List Bool) (m : Nat) (TT : Nat → Tk) (L : List Int) (v x y : Value) (w : World) (hv : Lst (fun _ => False) w v (ints gens)) (hx : Lst (fun _ => False) w x (bools taken)) (hy : Tasks w y m TT) (hok : ∀ j, j < m → (TT j).k.c ≤ 9223372036854775807 ∧ (TT j).n * 32 ≤ 140737488355328) (h8 : gens.length = 8) (hL : L.length = 8) (h : (taken.length = gens.length ∧ standB gens taken gens.length) ∧ m = rank taken taken.length) :
    Calls Tryz.prog 10 #[v, x, y] w (LoadAny w (∀ j, j < m → okTk (TT j)) (loadTo 2 gens taken L) (fillT taken TT 8)) := by
  have HK := Lib.hid (kload_ok (fun _ => False) 2 gens taken m TT L v x y w hv hx hy (by omega) (by omega) (by omega) (by omega) h.1.1 h.1.2 h.2)
  have HA := Lib.hid (ok8_load h8 h.1.1 h.1.2 hL)
  have hri : (loadTo 2 gens taken L).idxs.length = m := by rw [idxs_count, h.2, h.1.1]
  have HRI := Lib.hid hri
  have HRK := Lib.hid (show ∀ i, (loadTo 2 gens taken L).t i = true → rank taken i < m from fun i hi => by
    have h1 := idxs_rank (loadTo 2 gens taken L) (t_len2 HA.out hi) hi
    have h2 := (List.getElem?_eq_some_iff.1 h1).1
    rw [hri] at h2
    exact h2)
  have HFT := Lib.hid (show ∀ k, k < m → fillT taken TT 8 ((loadTo 2 gens taken L).idxs.getD k 0) = TT k from fun k hk => by
    have hk' : k < (loadTo 2 gens taken L).idxs.length := by rw [hri]; exact hk
    obtain ⟨h1, h2⟩ := idxs_at hk'
    have h3 := rank_idxs hk'
    unfold fillT
    rw [if_pos ⟨by have e8 : (loadTo 2 gens taken L).gens.length = 8 := h8; omega, h2⟩]
    exact congrArg TT h3)
  have HY := Lib.hid hy
  have HOK := Lib.hid hok
  obtain ⟨p, cp, rfl, _, _⟩ := hv
  obtain ⟨p2, cp2, rfl, hm63, _⟩ := hy
  rw [ints_len] at HK ⊢
  rw [h8] at HK ⊢
  generalize hAA : loadTo 2 gens taken L = A at *
  have hAt : A.taken = taken := by rw [← hAA]
  have HAT := Lib.hid hAt
  clear hAA hAt h8 h hx hok hri
  go_enter Tryz.func10, Tryz.ntmps10
  go_wp2_with fail
  refine HK.out.mono ?_
  rintro e w1 ⟨ST, tv, rfl, hpt, hb1⟩
  have HI1 := Lib.hid (LoadI.start HAT.out hpt hb1 HY.out HRK.out)
  have HALL := Lib.hid (kall ST ST w.heap.size A HA.out _ w1 tv hpt (fun x hx => (hpt.lt x hx).2))
  obtain ⟨b, g1, c1, g2, c2, g3, c3, rfl, _⟩ := hpt
  clear hb1
  go_wp2_with fail
  refine HALL.out.mono ?_
  rintro e w2 ⟨r, rfl, hl, hb2⟩
  obtain ⟨pa, ca, rfl, _, hal⟩ := hl
  have el : (ints A.all).length = m := by rw [ints_len, all_len]; exact HRI.out
  rw [el]
  have HH := Lib.hid (show ∀ j, j < m → ∃ ba oa, pa = some ⟨ba, oa, none⟩ ∧ ¬ ST ba ∧ w2.cell? ⟨ba, oa + j, none⟩ = some (.int .i64 (A.hd (A.idxs.getD j 0))) from fun j hj => by
    obtain ⟨ba, oa, e, hn, hca⟩ := hal j _ (all_at (by rw [HRI.out]; exact hj))
    exact ⟨ba, oa, e, hn, hca⟩)
  have HI2 := Lib.hid (HI1.out.under hb2)
  have HB2 := Lib.hid (Below.refl w2.heap.size w2)
  have HBB := Lib.hid hb2
  clear hal el hb2
  go_wp2_with fail
  go_loopw [29] (fun iv wr => ∃ k : Nat, iv = .int .i64 k ∧ k ≤ m ∧ Hid (∀ j, j < k → okTk (TT j)) ∧ Hid (LoadI w A (fillT taken TT 8) ST (.pointer (some ⟨b, 0, none⟩)) k wr) ∧ Hid (Keeps ST w2 wr)) (fun iv _ => m - (intOf iv).toNat)
  case atStart => exact ⟨0, rfl, Nat.zero_le _, Lib.hid (fun j hj => absurd hj (Nat.not_lt_zero _)), HI2, Lib.hid (Keeps.refl _ _)⟩
  case round =>
    obtain ⟨k, rfl, hk, HOKS, HI, HKP⟩ := hrel
    by_cases hkm : k < m
    · have hkm' : (k : Int) < (m : Int) := by omega
      have z0 : (0 : Int) ≤ (k : Int) := by omega
      obtain ⟨sl, hpk, hjx, hbr⟩ := HI.out
      have HPK := Lib.hid hpk
      have HJX := Lib.hid hjx
      have HBR := Lib.hid hbr
      have HSTL := Lib.hid (fun x hx => (hpk.lt x hx).2)
      obtain ⟨_, _, e, _, hc⟩ := HY.out.below hbr
      simp only [Value.slice.injEq] at e
      obtain ⟨b3, o3, e3, d0, d1, d2, d3, d4, d5, d6, d7, hJ⟩ := hc k hkm
      have e4 : p2 = some ⟨b3, o3, none⟩ := by rw [e.1]; exact e3
      subst e4
      obtain ⟨ba, oa, rfl, hnS, hca⟩ := HH.out k hkm
      have hcb := (HKP.out.cell (p := ⟨ba, oa + k, none⟩) (cell_lt hca) hnS).trans hca
      obtain ⟨hq1, hq2⟩ := idxs_at (A := A) (j := k) (by rw [HRI.out]; exact hkm)
      have HFQ := Lib.hid (find_hd HA.out hq1 hq2)
      have HFK := Lib.hid (HFT.out k hkm)
      obtain ⟨hkc, hkn⟩ := HOK.out k hkm
      obtain ⟨t, hti⟩ : ∃ t, t = TT k := ⟨_, rfl⟩
      have HTI := Lib.hid hti
      rw [← hti] at d0 d1 d2 d3 d4 d5 d6 d7 hJ hkc hkn HFK
      clear e e3 hc hti hca hnS hq1 hq2 hjx
      obtain ⟨q0, cp0, hs0, _⟩ := id hJ
      obtain ⟨tp, ts, tn, tf, ⟨kg, ko, kn, kd, kc, kt⟩⟩ := t
      dsimp only at d0 d1 d2 d3 d4 d5 d6 d7 hJ hkc hkn HFK hs0
      subst hs0
      have HJ := Lib.hid hJ
      have HV := Lib.hid (pvalid tp (.slice q0 tn cp0) tn tf ⟨kg, ko, kn, kd, kc, kt⟩ wr hJ hkc)
      have HTW := Lib.hid (fun W (hb : Below wr.heap.size wr W) => ltwin tp (.slice q0 tn cp0) tn tf ⟨kg, ko, kn, kd, kc, kt⟩ W (hJ.below hb) hkn)
      have HST := Lib.hid (fun W (hb : Below wr.heap.size wr W) p' q n c f kk => kset_some ST w.heap.size A HA.out (tm (fillT taken TT 8) sl) W _ (HPK.out.below hb) (A.hd (A.idxs.getD k 0)) p' q n c f kk (A.idxs.getD k 0) HFQ.out)
      have hn63 : tn ≤ 9223372036854775807 := by omega
      have HN63 := Lib.hid hn63
      have hbl3 : b3 < wr.heap.size := cell_lt d0
      have HX := Lib.hid (fun W (hb : Below wr.heap.size wr W) => (show _ ∧ _ ∧ _ ∧ _ ∧ _ ∧ _ ∧ _ ∧ _ from ⟨(hb.cell (p := ⟨b3, o3 + k * 8, none⟩) hbl3).trans d0, (hb.cell (p := ⟨b3, o3 + k * 8 + 1, none⟩) hbl3).trans d1, (hb.cell (p := ⟨b3, o3 + k * 8 + 2, none⟩) hbl3).trans d2, (hb.cell (p := ⟨b3, o3 + k * 8 + 3, none⟩) hbl3).trans d3, (hb.cell (p := ⟨b3, o3 + k * 8 + 4, none⟩) hbl3).trans d4, (hb.cell (p := ⟨b3, o3 + k * 8 + 5, none⟩) hbl3).trans d5, (hb.cell (p := ⟨b3, o3 + k * 8 + 6, none⟩) hbl3).trans d6, (hb.cell (p := ⟨b3, o3 + k * 8 + 7, none⟩) hbl3).trans d7⟩))
      generalize A.hd (A.idxs.getD k 0) = hx at *
      clear hpk hbr hJ hkc hkn hn63
      by_cases hv : okT tp tn tf ⟨kg, ko, kn, kd, kc, kt⟩
      · have HOV := Lib.hid (show okTk (TT k) from by rw [← HTI.out]; exact hv)
        rw [show validE tp tn tf ⟨kg, ko, kn, kd, kc, kt⟩ = 0 from if_pos hv, errV_0] at HV
        clear hv
        go_wp2_with fail
        refine HV.out.mono ?_
        rintro e w3 ⟨rfl, hb3⟩
        have HB3 := Lib.hid hb3
        have HX3 := Lib.hid (HX.out w3 hb3)
        clear d0 d1 d2 d3 d4 d5 d6 d7 hb3
        have d0 := HX3.out.1
        have d1 := HX3.out.2.1
        have d2 := HX3.out.2.2.1
        have d3 := HX3.out.2.2.2.1
        have d4 := HX3.out.2.2.2.2.1
        have d5 := HX3.out.2.2.2.2.2.1
        have d6 := HX3.out.2.2.2.2.2.2.1
        have d7 := HX3.out.2.2.2.2.2.2.2
        go_wp2_with fail
        refine (HTW.out w3 HB3.out).mono ?_
        rintro e w5 ⟨y5, rfl, s5, c5, rfl, ho5, hb5⟩
        have HB5 := Lib.hid (bnext HB3.out hb5)
        have HO5 := Lib.hid (own_base2 ho5 HB3.out.size)
        clear ho5 hb5 d0 d1 d2 d3 d4 d5 d6 d7
        go_wp2_with fail
        refine (HST.out w5 HB5.out tp s5 tn c5 tf ⟨kg, ko, kn, kd, kc, kt⟩).mono ?_
        rintro e w6 ⟨rfl, ht6, hk6⟩
        have HR6 := Lib.hid (HI.out.step HA.out HJX.out HB5.out HSTL.out HFK.out HO5.out HN63.out ht6 hk6)
        have HK6 := Lib.hid ((HKP.out.trans (Keeps.of_below HB5.out)).trans hk6)
        clear ht6 hk6
        go_wp2_with fail
        go_roundw
        case rel =>
          refine ⟨k + 1, by go_num, by omega, Lib.hid fun j hj => ?_, HR6, HK6⟩
          by_cases ej : j = k
          · rw [ej]; exact HOV.out
          · exact HOKS.out j (by omega)
        case measure => simp [intOf]; omega
      · have HNV := Lib.hid (show ¬ ∀ j, j < m → okTk (TT j) from fun hh => hv (by have h1 := hh k hkm; rw [← HTI.out] at h1; exact h1))
        rw [show validE tp tn tf ⟨kg, ko, kn, kd, kc, kt⟩ = 270 from if_neg hv, errV_ne (by decide)] at HV
        clear hv
        go_wp2_with fail
        refine HV.out.mono ?_
        rintro e w3 ⟨rfl, hb3⟩
        have HB3 := Lib.hid (bnext HBR.out hb3)
        clear hb3 d0 d1 d2 d3 d4 d5 d6 d7
        go_wp2_with fail
        go_ret2
        exact .inr ⟨HNV.out, rfl, HB3.out⟩
    · have hkk : k = m := by omega
      subst hkk
      have HF := Lib.hid (HI.out.fin (by rw [HAT.out]; exact HRK.out))
      have HO2 := Lib.hid HOKS.out
      go_wp2_with fail
      go_ret2
      exact .inl ⟨HO2.out, HF.out⟩
theorem lload (gens : List Int) (taken : List Bool) (m : Nat) (TT : Nat → Tk) (L : List Int) (v x y : Value) (w : World) (hv : Lst (fun _ => False) w v (ints gens)) (hx : Lst (fun _ => False) w x (bools taken)) (hy : Tasks w y m TT) (hok : ∀ j, j < m → (TT j).k.c ≤ 9223372036854775807 ∧ (TT j).n * 32 ≤ 140737488355328) (hL : L.length = 8) :
    Calls Tryz.prog 10 #[v, x, y] w (LoadAny w (okLoad gens taken m TT) (loadTo 2 gens taken L) (fillT taken TT 8)) := by
  by_cases h8 : gens.length = 8
  · by_cases h : (taken.length = gens.length ∧ standB gens taken gens.length) ∧ m = rank taken taken.length
    · refine (lload_mid gens taken m TT L v x y w hv hx hy hok h8 hL h).mono fun e w' hh => ?_
      rcases hh with ⟨h1, h2⟩ | ⟨h1, h2⟩
      · exact .inl ⟨⟨h8, h, h1⟩, h2⟩
      · exact .inr ⟨fun hh => h1 hh.2.2, h2⟩
    · exact (lload_no2 gens taken m TT v x y w hv hx hy h8 h).mono fun e w' hh => .inr ⟨fun k => h k.2.1, hh⟩
  · exact (lload_no1 gens v x y w hv h8).mono fun e w' hh => .inr ⟨fun k => h8 k.1, hh⟩
theorem Lf_tm {S X : Nat → Prop} {B : Nat} {w : World} {A : Tab} {T : Nat → Tk} {v : Value} {s : Nat → Value} (h : Lf S X B w A (tm T s) v) : Lf S X B w A T v := h
theorem stand_good {A : Tab} (h : A.Good) : standB A.gens A.taken A.gens.length := fun i hi => by
  have h1 := h.g1 i hi
  refine ⟨h1.1, ?_⟩
  show A.g i ≤ _
  by_cases ht : A.taken.getD i false = true
  · rw [if_pos ht]; exact h.gt i hi ht
  · rw [if_neg ht]; exact h1.2
set_option maxHeartbeats 1000000 in
set_option maxRecDepth 100000 in
theorem lclone (S X : Nat → Prop) (B : Nat) (A : Tab) (T : Nat → Tk) (hg : LGood A T) (hz : ∀ i, A.t i = false → T i = tk0) (w : World) (v : Value) (h : Lf S X B w A T v) :
    Calls Tryz.prog 14 #[v] w fun e w' => ∃ S' v', e = .returned v' ∧ (∀ X : Nat → Prop, (∀ x, X x → x < w.heap.size) → Lf S' (fun x => X x ∨ S' x) w.heap.size w' A T v') ∧ Below w.heap.size w w' := by
  have HSV := Lib.hid (lsave S X B A T hg w v h)
  have hll := hg.tab.ll
  have hl8 := hg.len
  have hLd := Lib.hid (fun W g c sf gs ts (h1 : Lst (fun _ => False) W gs (ints A.gens)) (h2 : Lst (fun _ => False) W ts (bools A.taken)) (h3 : Tasks W (.slice (some ⟨g, 0, none⟩) A.idxs.length c) A.idxs.length (tm (toldF A T) sf)) =>
    lload A.gens A.taken A.idxs.length (tm (toldF A T) sf) A.list gs ts _ W h1 h2 h3 (fun j _ => ⟨okT_c (hg.ok _), by have := (hg.ok (A.idxs.getD j 0)).2.1; show (T (A.idxs.getD j 0)).n * 32 ≤ _; omega⟩) (by omega))
  have HOK := Lib.hid (show ∀ sf, okLoad A.gens A.taken A.idxs.length (tm (toldF A T) sf) from fun sf => ⟨hl8, ⟨⟨hg.tab.lt, stand_good hg.tab⟩, by rw [idxs_count, hg.tab.lt]⟩, fun j _ => hg.ok _⟩)
  have HEQ := Lib.hid (show ∀ sf, loadTo 2 A.gens A.taken A.list = A ∧ ∃ s2, fillT A.taken (tm (toldF A T) sf) 8 = tm T s2 from fun sf => ⟨by rw [← hg.kind], fun i => if i < 8 ∧ A.taken.getD i false = true then sf (rank A.taken i) else .slice none 0 0, by
    funext i
    unfold fillT
    by_cases c : i < 8 ∧ A.taken.getD i false = true
    · rw [if_pos c]
      have h1 := idxs_rank A (i := i) (by omega) c.2
      have h2 : A.idxs.getD (rank A.taken i) 0 = i := by rw [List.getD_eq_getElem?_getD, h1]; rfl
      unfold tm toldF
      simp only [h2, if_pos c]
    · rw [if_neg c]
      have hti : A.t i = false := by
        cases hti : A.t i with
        | false => rfl
        | true => exact absurd ⟨by have := t_len2 hg.tab hti; omega, hti⟩ c
      unfold tm
      simp only [hz i hti, if_neg c]⟩)
  obtain ⟨_, bl, _, _, rfl, _⟩ := h
  unfold SavePost at HSV
  clear hg hz hll hl8
  go_enter Tryz.func14, Tryz.ntmps14
  go_wp2_with fail
  refine HSV.out.mono ?_
  rintro e w1 ⟨gs, ts, g, c, sf, rfl, h1, h2, h3, hb1⟩
  have HB1 := Lib.hid hb1
  have HL := Lib.hid (hLd.out w1 g c sf gs ts h1 h2 h3)
  clear h1 h2 h3 hb1
  go_wp2_with fail
  refine HL.out.mono ?_
  intro e w2 hh
  rcases hh with ⟨_, S', v', rfl, hX, hb2⟩ | ⟨hn, _⟩
  · have HX := Lib.hid hX
    have HB2 := Lib.hid (bnext HB1.out hb2)
    have HS1 := Lib.hid (HB1.out.size)
    clear hX hb2
    go_wp2_with fail
    go_ret
    obtain ⟨e1, s2, e2⟩ := HEQ.out sf
    refine ⟨S', v', rfl, fun X hX => ?_, HB2.out⟩
    have h9 := HX.out X (fun x hx => Nat.lt_of_lt_of_le (hX x hx) HS1.out)
    rw [e1, e2] at h9
    obtain ⟨sl, bl', ST, tv, ev, hc, ht, ⟨hbb, hns⟩, hS, hj⟩ := Lf_tm h9
    obtain ⟨b, g1, c1, g2, c2, g3, c3, ev2, hp, hST⟩ := ht
    exact ⟨sl, bl', ST, tv, ev, hc, ⟨b, g1, c1, g2, c2, g3, c3, ev2, ⟨hp.f0, hp.f1, hp.f2, hp.f3, ⟨own_base2 hp.own.g HS1.out, own_base2 hp.own.t HS1.out, own_base2 hp.own.l HS1.out, hp.own.n12, hp.own.n13, hp.own.n23⟩, Nat.le_trans HS1.out hp.hb, hp.n1, hp.n2, hp.n3⟩, hST⟩, ⟨Nat.le_trans HS1.out hbb, hns⟩, hS, hj⟩
  · exact absurd (HOK.out sf) hn
end Go.Proofs.YthbkinopgialmaaGreatDoor
/- What an append of tasks makes; no condition but those that each row names. -/
namespace Go.Proofs.YthbkinopgialmaaGreatDoor
open Go.RowKit Tsk

/-- What is appended: m tasks, their cells. -/
def SrcK (w : World) (u : Value) (m : Nat) (ys : List Value) : Prop := ∃ p cap, u = .slice p m cap ∧ ys.length = m * 8 ∧ ∀ j y, ys[j]? = some y → ∃ b off, p = some ⟨b, off, none⟩ ∧ w.cell? ⟨b, off + j, none⟩ = some y
theorem run_append_tasks (w : World) (ty : TypeId) (base : Nat) (v : Value) (n : Nat) (xs : List Value) (hown : w.ownsRow base KT 8 v n xs) (u : Value) (m : Nat) (ys : List Value) (hu : SrcK w u m ys) (h1 : ∀ u ∈ ys, u.oneCell' = true) (hm : (n + m) * 80 ≤ 140737488355328) (hbase : base ≤ w.heap.size) :
    ∃ p cap w', (Builtin.append_ #[29, 29] ty #[v, u]).run Tryz.prog w = .ok (.slice p (n + m) cap) w' ∧ w'.ownsRow base KT 8 (.slice p (n + m) cap) (n + m) (xs ++ ys) ∧ w.grownBy w' v.ownBlock ∧
      (∀ g, (Value.slice p (n + m) cap).ownBlock = some g → v.ownBlock = some g ∨ w.heap.size ≤ g) := by
  obtain ⟨i0, hi, hz0, hz1, hz2⟩ := info_parts Tryz.infTk
  obtain ⟨p, cap, rfl, hl, hc⟩ := hu
  cases m with
  | zero =>
    obtain rfl : ys = [] := List.eq_nil_of_length_eq_zero (by omega)
    obtain ⟨p', cap', rfl, hle⟩ := own_small hown
    refine ⟨p', cap', w, ?_, by simpa using hown, ⟨rfl, rfl, rfl, Nat.le_refl _, fun _ _ _ => rfl⟩, fun g e => .inl e⟩
    refine run_append_nothing w 29 29 ty KT i0 Tryz.underlying29 hi p' n cap' hle _ ?_
    cases p with
    | none => exact Src.ofNil w Tryz.underlying29 cap
    | some a => exact Src.ofSlice w Tryz.underlying29 a 0 cap [] (by simp) (fun j u hj => by simp at hj) (fun u hu => by simp at hu)
  | succ m =>
    obtain ⟨y, hy⟩ : ∃ y, ys[0]? = some y := ⟨_, List.getElem?_eq_getElem (by omega)⟩
    obtain ⟨b, off, rfl, _⟩ := hc 0 y hy
    obtain ⟨g, cap', w', hr, ho, hg, hat, hlt⟩ := run_append_lies (P := Tryz.prog) (w := w) 29 ty base KT i0 (.agg #[.int .i64 0, .slice none 0 0, .int .i64 0, .int .i64 0, .int .i64 0, .int .i64 0, .int .i64 0, .int .i64 0]) 8 80 Tryz.underlying29 hi hz0 hz1 hz2 rfl (by decide) v n xs hown ⟨b, off, none⟩ (m + 1) cap ys hl
      (fun j u hj => by
        obtain ⟨b', off', e, hcell⟩ := hc j u hj
        cases e
        have hadd : (⟨b, off, none⟩ : Addr).add j = ⟨b, off + j, none⟩ := by unfold Addr.add; split <;> simp_all
        rw [hadd]; exact hcell) h1 (by omega) (by unfold maxLen; omega) (by omega) hbase _ rfl
    refine ⟨_, _, w', hr, ho, hg, fun g' e => ?_⟩
    simp [Value.ownBlock] at e
    subst e
    rcases hat with e | e
    · exact .inl e
    · exact .inr (by omega)
theorem wpList_append_tasks {w : World} {ops : Array Oper} {rest : List Oper} {o : Oper} {a : Act} {Q : Exit → Act → World → Prop} (hgd : o.guard = none) (s x : Operand)
    (ho : o.op = .call { callee := .builtin .append, args := #[s, x], argTypes := #[29, 29] })
    (base : Nat) (v : Value) (n : Nat) (xs : List Value) (hs : a.eval s = v) (hown : w.ownsRow base KT 8 v n xs) (u : Value) (m : Nat) (ys : List Value) (hx : a.eval x = u) (hu : SrcK w u m ys) (h1 : ∀ u ∈ ys, u.oneCell' = true) (hm : (n + m) * 80 ≤ 140737488355328) (hbase : base ≤ w.heap.size)
    (h : ∀ p cap w', w'.ownsRow base KT 8 (.slice p (n + m) cap) (n + m) (xs ++ ys) → w.grownBy w' v.ownBlock → (∀ g, (Value.slice p (n + m) cap).ownBlock = some g → v.ownBlock = some g ∨ w.heap.size ≤ g) → wpList Tryz.prog ops Q rest (a.put o.dst (.slice p (n + m) cap)) w') : wpList Tryz.prog ops Q (o :: rest) a w := by
  refine wpList_plain hgd fun K hK => ?_
  obtain ⟨p, cap, w', hr, h2, h3, h4⟩ := run_append_tasks w o.type base v n xs hown u m ys hu h1 hm hbase
  unfold Oper.wp execOp
  simp only [ho, resolve, invoke, builtin, Sem.run_bind, Sem.run_pure, Result.andThen_ok, List.map_toArray, List.map_cons, List.map_nil, hs, hx, hr]
  exact hK _ _ (h p cap w' h2 h3 h4)
/-- A slice that reads as tasks is such a source. -/
theorem src_tasks {w : World} {v : Value} {n : Nat} {T : Nat → Tk} (h : Tasks w v n T) : SrcK w v n (tkL T n) := by
  obtain ⟨p, cap, rfl, _, hc⟩ := h
  refine ⟨p, cap, rfl, tkL_len T n, fun j y hy => ?_⟩
  have hj : j < n * 8 := by have := (List.getElem?_eq_some_iff.1 hy).1; rwa [tkL_len] at this
  obtain ⟨b, off, e, c0, c1, c2, c3, c4, c5, c6, c7, _⟩ := hc (j / 8) (by omega)
  refine ⟨b, off, e, ?_⟩
  have hd : j = j / 8 * 8 + j % 8 := by omega
  rw [hd, tkL_at T (by omega) _ (by omega)] at hy
  cases hy
  have hr : j % 8 = 0 ∨ j % 8 = 1 ∨ j % 8 = 2 ∨ j % 8 = 3 ∨ j % 8 = 4 ∨ j % 8 = 5 ∨ j % 8 = 6 ∨ j % 8 = 7 := by omega
  generalize j / 8 = i at *
  rcases hr with r | r | r | r | r | r | r | r
  · rw [r] at hd ⊢; rw [hd]; exact c0
  · rw [r] at hd ⊢; rw [hd, ← Nat.add_assoc]; exact c1
  · rw [r] at hd ⊢; rw [hd, ← Nat.add_assoc]; exact c2
  · rw [r] at hd ⊢; rw [hd, ← Nat.add_assoc]; exact c3
  · rw [r] at hd ⊢; rw [hd, ← Nat.add_assoc]; exact c4
  · rw [r] at hd ⊢; rw [hd, ← Nat.add_assoc]; exact c5
  · rw [r] at hd ⊢; rw [hd, ← Nat.add_assoc]; exact c6
  · rw [r] at hd ⊢; rw [hd, ← Nat.add_assoc]; exact c7
/-- One task that lies in a block of its own. -/
theorem src_onet (w : World) (p : Int) (s : Value) (k : Ac) (t : TypeId) : SrcK (w.alloc (.cells #[.int .i64 p, s, .int .i64 k.g, .int .i64 k.o, .int .i64 k.n, .int .i64 k.d, .int .i64 k.c, .int .i64 k.t] t)) (.slice (some ⟨w.heap.size, 0, none⟩) 1 1) 1 [.int .i64 p, s, .int .i64 k.g, .int .i64 k.o, .int .i64 k.n, .int .i64 k.d, .int .i64 k.c, .int .i64 k.t] := by
  refine ⟨_, _, rfl, rfl, fun i y hy => ⟨w.heap.size, 0, rfl, ?_⟩⟩
  rw [Nat.zero_add, has_cell (has_new w (.cells #[.int .i64 p, s, .int .i64 k.g, .int .i64 k.o, .int .i64 k.n, .int .i64 k.d, .int .i64 k.c, .int .i64 k.t] t) _ rfl)]
  simpa using hy
theorem tkL_one {w : World} {v : Value} {n : Nat} {T : Nat → Tk} (h : Tasks w v n T) : ∀ u ∈ tkL T n, u.oneCell' = true := by
  intro u hu
  unfold tkL lst at hu
  obtain ⟨x, hx, rfl⟩ := List.mem_map.1 hu
  have hx' : x < n * 8 := List.mem_range.1 hx
  obtain ⟨_, _, _, _, hc⟩ := h
  obtain ⟨_, _, _, _, _, _, _, _, _, _, _, hJ⟩ := hc (x / 8) (by omega)
  obtain ⟨p, cap, e, _⟩ := hJ
  unfold prtT
  have hr : x % 8 = 0 ∨ x % 8 = 1 ∨ x % 8 = 2 ∨ x % 8 = 3 ∨ x % 8 = 4 ∨ x % 8 = 5 ∨ x % 8 = 6 ∨ x % 8 = 7 := by omega
  rcases hr with r | r | r | r | r | r | r | r <;> rw [r] <;> first | rfl | (simp only [Nat.one_ne_zero, if_false, if_true, e]; rfl)
end Go.Proofs.YthbkinopgialmaaGreatDoor
/- The document's own leaf as it lies in memory; put, handle, Task, All; no condition but those that each row names. -/
namespace Go.Proofs.YthbkinopgialmaaGreatDoor
open Go.RowKit Tsk

/-- A slice of tasks that lies, with their jobs, in none of the blocks X. -/
structure TasksX (X : Nat → Prop) (w : World) (v : Value) (m : Nat) (F : Nat → Tk) : Prop where
  tk : Tasks w v m F
  far : ∀ a n c, v = .slice (some a) n c → 0 < n → ¬ X a.block
  jx : ∀ j, j < m → JobsX X w (F j).s (F j).n (F j).f
theorem TasksX.keeps {X R : Nat → Prop} {w w' : World} {v : Value} {m : Nat} {F : Nat → Tk} (h : TasksX X w v m F) (hk : Keeps R w w') (hR : ∀ x, R x → X x) : TasksX X w' v m F := by
  refine ⟨?_, h.far, fun j hj => (h.jx j hj).keeps hk hR⟩
  obtain ⟨⟨p, cap, e, hm, hc⟩, hf, hj⟩ := h
  refine ⟨p, cap, e, hm, fun j hlt => ?_⟩
  obtain ⟨b, off, e2, c0, c1, c2, c3, c4, c5, c6, c7, hJ⟩ := hc j hlt
  have hl := cell_lt c0
  have hn : ¬ R b := fun r => hf ⟨b, off, none⟩ m cap (by rw [e, e2]) (by omega) (hR b r)
  have k := fun (o : Nat) => hk.cell (p := ⟨b, o, none⟩) hl hn
  exact ⟨b, off, e2, (k _).trans c0, (k _).trans c1, (k _).trans c2, (k _).trans c3, (k _).trans c4, (k _).trans c5, (k _).trans c6, (k _).trans c7, ((hj j hlt).keeps hk hR).1⟩
theorem TasksX.below {X : Nat → Prop} {w w' : World} {v : Value} {m : Nat} {F : Nat → Tk} (h : TasksX X w v m F) (hb : Below w.heap.size w w') : TasksX X w' v m F := ⟨h.tk.below hb, h.far, fun j hj => (h.jx j hj).below hb⟩
theorem TasksX.mono {X Y : Nat → Prop} {w : World} {v : Value} {m : Nat} {F : Nat → Tk} (h : TasksX X w v m F) (hy : ∀ x, x < w.heap.size → Y x → X x) : TasksX Y w v m F := by
  refine ⟨h.tk, fun a n c e h0 k => ?_, fun j hj => (h.jx j hj).mono hy⟩
  have ht := h.tk
  obtain ⟨p, cap, e1, _, hc⟩ := ht
  rw [e] at e1
  cases e1
  obtain ⟨b, off, e2, c0, _⟩ := hc 0 h0
  cases e2
  exact h.far _ _ _ e h0 (hy _ (cell_lt c0) k)
/-- The document's leaf in a world. -/
structure DL (X : Nat → Prop) (w : World) (A : Tab) (T : Nat → Tk) (gs ts ls ks : Value) : Prop where
  rt : RT X w A gs ts ls
  tk : ∃ sl, TasksX X w ks 8 (tm T sl)
theorem DL.keeps {X : Nat → Prop} {w w' : World} {A : Tab} {T : Nat → Tk} {gs ts ls ks : Value} (h : DL X w A T gs ts ls ks) (hk : Keeps X w w') : DL X w' A T gs ts ls ks := by
  obtain ⟨sl, hs⟩ := h.tk
  exact ⟨h.rt.keeps hk, sl, hs.keeps hk (fun _ k => k)⟩
theorem DL.below {X : Nat → Prop} {w w' : World} {A : Tab} {T : Nat → Tk} {gs ts ls ks : Value} (h : DL X w A T gs ts ls ks) (hb : Below w.heap.size w w') : DL X w' A T gs ts ls ks := h.keeps (Keeps.of_below hb)
abbrev lv (k : Int) (gs ts ls ks : Value) : Value := .agg #[.int .i64 k, gs, ts, ls, ks]
abbrev LT : TypeId := 31
/-- A leaf in a block of its own. -/
def HasL (W : World) (g : Nat) (k : Int) (gs ts ls ks : Value) : Prop := Has W g (.cells #[.int .i64 k, gs, ts, ls, ks] LT (0, 0))
theorem HasL.below {W W' : World} {g : Nat} {k : Int} {gs ts ls ks : Value} (h : HasL W g k gs ts ls ks) (hb : Below W.heap.size W W') : HasL W' g k gs ts ls ks := (hb.block g (has_lt h)).trans h
theorem HasL.cells {W : World} {g : Nat} {k : Int} {gs ts ls ks : Value} (h : HasL W g k gs ts ls ks) : W.cell? ⟨g, 0, none⟩ = some (.int .i64 k) ∧ W.cell? ⟨g, 1, none⟩ = some gs ∧ W.cell? ⟨g, 2, none⟩ = some ts ∧ W.cell? ⟨g, 3, none⟩ = some ls ∧ W.cell? ⟨g, 4, none⟩ = some ks :=
  ⟨(has_cell h 0).trans rfl, (has_cell h 1).trans rfl, (has_cell h 2).trans rfl, (has_cell h 3).trans rfl, (has_cell h 4).trans rfl⟩
theorem hasL_new (w : World) (k : Int) (gs ts ls ks : Value) : HasL (w.alloc (.cells #[.int .i64 k, gs, ts, ls, ks] LT)) w.heap.size k gs ts ls ks := has_new _ _ _ rfl
theorem below5 {B g : Nat} {w W : World} (h : Below B w W) (hg : B ≤ g) (v0 v1 v2 v3 v4 : Value) : Below B w (((((W.setCell ⟨g, 0, none⟩ v0).setCell ⟨g, 1, none⟩ v1).setCell ⟨g, 2, none⟩ v2).setCell ⟨g, 3, none⟩ v3).setCell ⟨g, 4, none⟩ v4) :=
  below_low (below_low (below_low (below_low (below_low h _ _ hg) _ _ hg) _ _ hg) _ _ hg) _ _ hg
theorem own_low5 {B e z n g : Nat} {w : World} {v : Value} {xs : List Value} (h : w.ownsRow B e z v n xs) (hg : g < B) (v0 v1 v2 v3 v4 : Value) : (((((w.setCell ⟨g, 0, none⟩ v0).setCell ⟨g, 1, none⟩ v1).setCell ⟨g, 2, none⟩ v2).setCell ⟨g, 3, none⟩ v3).setCell ⟨g, 4, none⟩ v4).ownsRow B e z v n xs :=
  own_low (own_low (own_low (own_low (own_low h _ _ hg) _ _ hg) _ _ hg) _ _ hg) _ _ hg
/-- The three slices of a table. -/
def IsSl3 (gs ts ls : Value) : Prop := ∃ p n c q n2 c2 r n3 c3, gs = .slice p n c ∧ ts = .slice q n2 c2 ∧ ls = .slice r n3 c3
theorem RT.sl3 {X : Nat → Prop} {w : World} {A : Tab} {gs ts ls : Value} (h : RT X w A gs ts ls) : IsSl3 gs ts ls := by
  obtain ⟨p, cp, q, cq, r, cr, e1, e2, e3⟩ := h.shapes
  exact ⟨p, _, cp, q, _, cq, r, _, cr, e1, e2, e3⟩
/-- What put answers: another task at a slot, in a row of its own. -/
def PutP (X : Nat → Prop) (w : World) (k : Int) (gs ts ls : Value) (F : Nat → Tk) (e : Ending) (w' : World) : Prop := ∃ ks, e = .returned (lv k gs ts ls ks) ∧ TasksX X w' ks 8 F ∧ Below w.heap.size w w'
set_option maxHeartbeats 4000000 in
set_option maxRecDepth 100000 in
theorem rput (X : Nat → Prop) (w : World) (hX : ∀ x, X x → x < w.heap.size) (K : Int) (gs ts ls ks : Value) (hsl : IsSl3 gs ts ls) (F : Nat → Tk) (h : TasksX X w ks 8 F) (i : Nat) (hi : i < 8) (p : Int) (s : Value) (n : Nat) (f : Nat → Jb) (k : Ac) (hj : JobsX X w s n f) :
    Calls Tryz.prog 50 #[lv K gs ts ls ks, .int .i64 i, tV p s k] w (PutP X w K gs ts ls (upd F i ⟨p, s, n, f, k⟩)) := by
  obtain ⟨p1, n1, c1, p2, n2, c2, p3, n3, c3, rfl, rfl, rfl⟩ := hsl
  obtain ⟨⟨q0, cq0, rfl, _⟩, _⟩ := id hj
  obtain ⟨pk, ck, rfl, _⟩ := id h.tk
  have HTX := Lib.hid h
  have HJX := Lib.hid hj
  obtain ⟨kg, ko, kn, kd, kc, kt⟩ := k
  obtain ⟨WA, hWA⟩ : ∃ WA, WA = ((w.alloc (.cells #[.int .i64 K, .slice p1 n1 c1, .slice p2 n2 c2, .slice p3 n3 c3, .slice pk 8 ck] LT)).alloc (.cells #[.int .i64 p, .slice q0 n cq0, .int .i64 kg, .int .i64 ko, .int .i64 kn, .int .i64 kd, .int .i64 kc, .int .i64 kt] KT)).alloc (.cells #[.int .i64 0, .slice none 0 0, .slice none 0 0, .slice none 0 0, .slice none 0 0] LT) := ⟨_, rfl⟩
  have HB := Lib.hid (show Below w.heap.size w WA from by rw [hWA]; exact (((Below.refl _ _).alloc (Nat.le_refl _) _).alloc (by simp) _).alloc (by simp; omega) _)
  have HT := Lib.hid (show HasL WA w.heap.size K (.slice p1 n1 c1) (.slice p2 n2 c2) (.slice p3 n3 c3) (.slice pk 8 ck) ∧ HasT WA (w.heap.size + 1) p (.slice q0 n cq0) ⟨kg, ko, kn, kd, kc, kt⟩ ∧ HasL WA (w.heap.size + 1 + 1) 0 (.slice none 0 0) (.slice none 0 0) (.slice none 0 0) (.slice none 0 0) ∧ WA.heap.size = w.heap.size + 3 from by
    rw [hWA]
    exact ⟨has_old (has_old (has_new w _ _ rfl) _) _, has_old (has_new _ _ _ (by simp)) _, has_new _ _ _ (by simp), by simp⟩)
  have HW := Lib.hid hWA
  have HXX := Lib.hid hX
  clear hWA h hj hX
  go_enter Tryz.func50, Tryz.ntmps50
  go_upto_region 1 with fail
  rw [← HW.out]
  obtain ⟨a0, a1, a2, a3, a4⟩ := HT.out.1.cells
  go_wp2_with (at_builtin; refine wpList_append_tasks rfl _ _ rfl (w.heap.size + 3) (.slice none 0 0) 0 [] rfl (World.ownsRow_nil _ _ _ _) _ 8 (tkL F 8) rfl (src_tasks (HTX.out.tk.below HB.out)) (tkL_one HTX.out.tk) (by omega) (by have := HT.out.2.2.2; omega) ?_)
  intro pn cn w3 ho3 hg3 ha3
  have hb3 : Below WA.heap.size WA w3 := below_of_grown hg3
  have HO3 := Lib.hid (show w3.ownsRow (w.heap.size + 3) KT 8 (.slice pn 8 cn) 8 (tkL F 8) from by
    try rw [Nat.zero_add] at ho3
    exact ho3)
  have HB3 := Lib.hid (bnext HB.out hb3)
  have HT3 := Lib.hid (show HasL w3 w.heap.size K (.slice p1 n1 c1) (.slice p2 n2 c2) (.slice p3 n3 c3) (.slice pk 8 ck) ∧ HasT w3 (w.heap.size + 1) p (.slice q0 n cq0) ⟨kg, ko, kn, kd, kc, kt⟩ ∧ HasL w3 (w.heap.size + 1 + 1) 0 (.slice none 0 0) (.slice none 0 0) (.slice none 0 0) (.slice none 0 0) from ⟨HT.out.1.below hb3, HT.out.2.1.below hb3, HT.out.2.2.1.below hb3⟩)
  clear a0 a1 a2 a3 a4 ho3 hg3 ha3 hb3
  obtain ⟨g, cap, eg, _, hgB, hgl⟩ := own_block2 HO3.out (by omega)
  cases eg
  obtain ⟨a0, a1, a2, a3, a4⟩ := HT3.out.1.cells
  obtain ⟨x0, x1, x2, x3, x4, x5, x6, x7⟩ := HT3.out.2.1.cells
  obtain ⟨y0, y1, y2, y3, y4⟩ := HT3.out.2.2.cells
  have fy := fun j => has_free HT3.out.2.2 j
  have q := fun (r : Nat) (hr : r < 8) => (World.ownsRow.cellAt HO3.out (i * 8 + r) (by omega)).trans (tkL_at F hi r hr)
  have u0 := q 0 (by omega)
  have u1 := q 1 (by omega)
  have u2 := q 2 (by omega)
  have u3 := q 3 (by omega)
  have u4 := q 4 (by omega)
  have u5 := q 5 (by omega)
  have u6 := q 6 (by omega)
  have u7 := q 7 (by omega)
  rw [Nat.add_zero] at u0
  have fr := fun j => World.ownsRow.frozenAt HO3.out j
  generalize prtT (F i) 0 = z0 at *
  generalize prtT (F i) 1 = z1 at *
  generalize prtT (F i) 2 = z2 at *
  generalize prtT (F i) 3 = z3 at *
  generalize prtT (F i) 4 = z4 at *
  generalize prtT (F i) 5 = z5 at *
  generalize prtT (F i) 6 = z6 at *
  generalize prtT (F i) 7 = z7 at *
  have l0 : (0 : Int) ≤ (i : Int) := by omega
  have l1 : (i : Int) < 8 := by omega
  have m0 : ¬ g = w.heap.size := by omega
  have m1 : ¬ w.heap.size = g := by omega
  have m2 : ¬ g = w.heap.size + 1 := by omega
  have m3 : ¬ w.heap.size + 1 = g := by omega
  have m4 : ¬ g = w.heap.size + 1 + 1 := by omega
  have m5 : ¬ w.heap.size + 1 + 1 = g := by omega
  have HGL := Lib.hid (show w.heap.size + 3 ≤ g from hgB)
  clear q hgB hgl
  go_wp2_with fail
  refine bodyPost_ret (v := lv K (.slice p1 n1 c1) (.slice p2 n2 c2) (.slice p3 n3 c3) (.slice (some ⟨g, 0, none⟩) 8 cn)) (by simp [results, Tryz.results50, go_sem, y0, y1, y2, y3, y4]) rfl ?_
  have hgl := HGL.out
  have hown := own_low5 (own_set8 HO3.out i ⟨p, .slice q0 n cq0, n, f, ⟨kg, ko, kn, kd, kc, kt⟩⟩) (g := w.heap.size + 1 + 1) (by omega) (.int .i64 K) (.slice p1 n1 c1) (.slice p2 n2 c2) (.slice p3 n3 c3) (.slice (some ⟨g, 0, none⟩) 8 cn)
  have hbel := below5 (below_set8 HB3.out (g := g) (by omega) i (.int .i64 p) (.slice q0 n cq0) (.int .i64 kg) (.int .i64 ko) (.int .i64 kn) (.int .i64 kd) (.int .i64 kc) (.int .i64 kt)) (g := w.heap.size + 1 + 1) (by omega) (.int .i64 K) (.slice p1 n1 c1) (.slice p2 n2 c2) (.slice p3 n3 c3) (.slice (some ⟨g, 0, none⟩) 8 cn)
  have hjx : ∀ W, Below w.heap.size w W → ∀ j, j < 8 → JobsX X W ((upd F i ⟨p, .slice q0 n cq0, n, f, ⟨kg, ko, kn, kd, kc, kt⟩⟩) j).s ((upd F i ⟨p, .slice q0 n cq0, n, f, ⟨kg, ko, kn, kd, kc, kt⟩⟩) j).n ((upd F i ⟨p, .slice q0 n cq0, n, f, ⟨kg, ko, kn, kd, kc, kt⟩⟩) j).f := fun W hW j hj => by
    by_cases e : j = i
    · subst e; rw [upd_same]; exact HJX.out.below hW
    · rw [upd_ne _ e]; exact (HTX.out.jx j hj).below hW
  exact ⟨_, rfl, ⟨own_tasks hown (by omega) fun j hj => (hjx _ hbel j hj).1, fun a n' c' e h0 k => by
    cases e
    have := HXX.out _ k
    simp only at this
    omega, hjx _ hbel⟩, hbel⟩
end Go.Proofs.YthbkinopgialmaaGreatDoor
