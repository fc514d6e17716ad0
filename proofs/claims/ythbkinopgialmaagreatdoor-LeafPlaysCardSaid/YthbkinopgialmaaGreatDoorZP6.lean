/- Texts of stages 3, 4, 12 and 13 that stand together: ZFind ZProg ZDropP ZNewP ZSAllR ZSClone ZAllP ZLoadP ZLeaf ZLeafB; no condition but those that each row names. -/
import Derived.Test.YthbkinopgialmaaGreatDoorZP1
import Derived.Test.YthbkinopgialmaaGreatDoorZP2
import Derived.Test.YthbkinopgialmaaGreatDoorZP3
import Derived.Test.YthbkinopgialmaaGreatDoorZP4
import Derived.Test.YthbkinopgialmaaGreatDoorZP5
import Derived.RegionTactic
import Derived.ChangeAlike
import Derived.Deep.DeepCutAuto
import Derived.BigRegion
import Derived.Deep.LoopGhost
import Derived.StillTailTactics
import Derived.Deep.RegionLaw
/- The program's handleAt, find, Get, Len of a table; no condition but those that each row names. -/
namespace Go.Proofs.YthbkinopgialmaaGreatDoor
open Go.RowKit Tsk

set_option maxHeartbeats 1000000 in
set_option maxRecDepth 100000 in
theorem khandle (B : Nat) (A : Tab) (T : Nat → Tk) (hA : A.Good) (w : World) (b g1 c1 g2 c2 g3 c3 : Nat) (h : PK B w A T b g1 c1 g2 c2 g3 c3) (i : Nat) (hi : i < A.gens.length) (hi2 : A.g i ≤ 1023) :
    Calls Tryz.prog 68 #[.pointer (some ⟨b, 0, none⟩), .int .i64 i] w fun e w' => e = .returned (.int .i64 (A.hd i)) ∧ ∃ n, w' = w.drewN n := by
  have n4 := hA.n4
  have hp : okP A.kind i (A.g i) := ⟨hA.k1, hA.k3, by omega, by omega, (hA.g1 i hi).1, hi2⟩
  have HM := Lib.hid (fun w => make_ok A.kind i (A.g i) w hp)
  have q := h.own.g.cellAt i (by omega)
  rw [ints_at hi] at q
  have f0 := h.f0
  have f1 := h.f1
  have hh : A.hd i = mkH A.kind i (A.g i) := rfl
  rw [hh]
  have hg : A.gens.getD i 0 = A.g i := rfl
  rw [hg] at q
  generalize mkH A.kind i (A.g i) = y at *
  generalize A.g i = gv at *
  have z0 : (0 : Int) ≤ (i : Int) := by omega
  have z1 : (i : Int) < (A.gens.length : Int) := by omega
  clear hp hh hg h hA hi2
  go_enter Tryz.func68, Tryz.ntmps68
  go_wp2_with fail
  go_quiet ((go_at_call 43; exact Calls.quiet_of_same ((HM.out _).mono fun _ _ h => ⟨h.1, h.2.symm⟩)))
  go_wp2_with fail
  go_ret
  exact ⟨rfl, _, rfl⟩

/-- What find answers. -/
def findV (A : Tab) (x : Int) : Value := match A.find x with
  | none => .tuple #[.int .i64 0, .iface 94 (.int .i64 20)]
  | some i => .tuple #[.int .i64 i, .nilIface]

set_option maxHeartbeats 1000000 in
set_option maxRecDepth 100000 in
theorem kfind (B : Nat) (A : Tab) (T : Nat → Tk) (hA : A.Good) (w : World) (b g1 c1 g2 c2 g3 c3 : Nat) (h : PK B w A T b g1 c1 g2 c2 g3 c3) (x : Int) :
    Calls Tryz.prog 72 #[.pointer (some ⟨b, 0, none⟩), .int .i64 x] w fun e w' => e = .returned (findV A x) ∧ Below w.heap.size w w' := by
  have n4 := hA.n4
  have hlt := hA.lt
  by_cases hok : okH x
  · have HS := Lib.hid (fun w => slot_ok x w hok)
    have s0 := (sOf_nonneg x).1
    by_cases hs : sOf x < A.gens.length
    · obtain ⟨i, hi⟩ := Int.eq_ofNat_of_zero_le s0
      have hil : i < A.gens.length := by omega
      have f2 := h.f2
      have q := h.own.t.cellAt i (by omega)
      rw [bools_at (by omega)] at q
      rw [hi] at HS
      rw [hlt] at f2
      have z0 : (0 : Int) ≤ (i : Int) := by omega
      have z1 : (i : Int) < (A.gens.length : Int) := by omega
      by_cases ht : A.taken.getD i false = true
      · have HH := Lib.hid (khandle B A T hA w b g1 c1 g2 c2 g3 c3 h i hil (hA.gt i hil ht))
        rw [ht] at q
        by_cases hx : A.hd i = x
        · have hv : findV A x = .tuple #[.int .i64 i, .nilIface] := by
            have : A.find x = some i := find_some hA hil ht hok (by rw [← hx]; exact (hd_parts hA hil ht).2.1) hi (by rw [← hx]; exact (hd_parts hA hil ht).2.2.2)
            unfold findV; rw [this]
          rw [hv]
          have hq : (A.hd i != x) = false := by simp [hx]
          generalize A.hd i = y at *
          clear hv hx h ht hi hA hs
          go_enter Tryz.func72, Tryz.ntmps72
          go_wp2_with fail
          refine (HS.out _).mono ?_
          rintro e w1 ⟨rfl, rfl⟩
          go_wp2_with fail
          refine HH.out.mono ?_
          rintro e w1 ⟨rfl, n, rfl⟩
          go_wp2_with fail
          go_ret2
          exact ⟨rfl, below_drewN (Below.refl _ _) n⟩
        · have hv : findV A x = .tuple #[.int .i64 0, .iface 94 (.int .i64 20)] := by
            have : A.find x = none := firstIn_none fun j hj => by
              rw [Bool.eq_false_iff]
              intro k
              obtain ⟨_, _, _, k3, k4⟩ := (is_iff hA x hj).1 k
              have : j = i := by omega
              subst this
              unfold Tab.is at k
              simp at k
              exact hx k.2
            unfold findV; rw [this]
          rw [hv]
          have hq : (A.hd i != x) = true := by simp [hx]
          generalize A.hd i = y at *
          clear hv hx h ht hi hA hs
          go_enter Tryz.func72, Tryz.ntmps72
          go_wp2_with fail
          refine (HS.out _).mono ?_
          rintro e w1 ⟨rfl, rfl⟩
          go_wp2_with fail
          refine HH.out.mono ?_
          rintro e w1 ⟨rfl, n, rfl⟩
          go_wp2_with fail
          go_ret2
          exact ⟨rfl, below_drewN (Below.refl _ _) n⟩
      · have hf : A.taken.getD i false = false := by simpa using ht
        have hv : findV A x = .tuple #[.int .i64 0, .iface 94 (.int .i64 20)] := by
          have : A.find x = none := find_none hA fun j hj htj _ _ hsj _ => by
            have : j = i := by omega
            subst this
            exact ht htj
          unfold findV; rw [this]
        rw [hv]
        rw [hf] at q
        clear hv h ht hi hA hs hf
        go_enter Tryz.func72, Tryz.ntmps72
        go_wp2_with fail
        refine (HS.out _).mono ?_
        rintro e w1 ⟨rfl, rfl⟩
        go_wp2_with fail
        go_ret2
        exact ⟨rfl, Below.refl _ _⟩
    · have hv : findV A x = .tuple #[.int .i64 0, .iface 94 (.int .i64 20)] := by
        have : A.find x = none := find_none hA fun j hj _ _ _ hsj _ => by omega
        unfold findV; rw [this]
      rw [hv]
      have f2 := h.f2
      rw [hlt] at f2
      generalize sOf x = s at *
      have hs2 : (A.gens.length : Int) ≤ s := by omega
      clear hv h hs hA
      go_enter Tryz.func72, Tryz.ntmps72
      go_wp2_with fail
      refine (HS.out _).mono ?_
      rintro e w1 ⟨rfl, rfl⟩
      go_wp2_with fail
      go_ret2
      exact ⟨rfl, Below.refl _ _⟩
  · have HS := Lib.hid (fun w => slot_no x w hok)
    have hv : findV A x = .tuple #[.int .i64 0, .iface 94 (.int .i64 20)] := by
      have : A.find x = none := find_none hA fun j hj _ h2 _ _ _ => hok h2
      unfold findV; rw [this]
    rw [hv]
    clear hv h hok hA
    go_enter Tryz.func72, Tryz.ntmps72
    go_wp2_with fail
    refine (HS.out _).mono ?_
    rintro e w1 ⟨rfl, rfl⟩
    go_wp2_with fail
    go_ret2
    exact ⟨rfl, Below.refl _ _⟩
theorem findV_none {A : Tab} {x : Int} (h : A.find x = none) : findV A x = .tuple #[.int .i64 0, .iface 94 (.int .i64 20)] := by unfold findV; rw [h]
theorem findV_some {A : Tab} {x : Int} {i : Nat} (h : A.find x = some i) : findV A x = .tuple #[.int .i64 i, .nilIface] := by unfold findV; rw [h]
end Go.Proofs.YthbkinopgialmaaGreatDoor
/- The program's Get, Set of a table of tasks; no condition but those that each row names. -/
namespace Go.Proofs.YthbkinopgialmaaGreatDoor
open Go.RowKit Tsk

/-- What is answered of a table that has turned. -/
def ActK (S : Nat → Prop) (B : Nat) (w : World) (A' : Tab) (T' : Nat → Tk) (v r : Value) (e : Ending) (w' : World) : Prop := e = .returned r ∧ PKTab S B w' A' T' v ∧ Keeps S w w'
theorem hasT_new (w : World) (p : Int) (s : Value) (k : Ac) : HasT (w.alloc (.cells #[.int .i64 p, s, .int .i64 k.g, .int .i64 k.o, .int .i64 k.n, .int .i64 k.d, .int .i64 k.c, .int .i64 k.t] KT)) w.heap.size p s k := has_new _ _ _ rfl
/-- The jobs of tasks are slices. -/
def IsSl (T : Nat → Tk) : Prop := ∀ i, ∃ p c, (T i).s = .slice p (T i).n c
theorem keeps_below {S : Nat → Prop} {w w1 w2 : World} (hb : Below w.heap.size w w1) (h : Keeps S w1 w2) : Keeps S w w2 := (Keeps.of_below hb).trans h
theorem below8 {B g : Nat} {w W : World} (h : Below B w W) (hg : B ≤ g) (v0 v1 v2 v3 v4 v5 v6 v7 : Value) : Below B w ((((((((W.setCell ⟨g, 0, none⟩ v0).setCell ⟨g, 1, none⟩ v1).setCell ⟨g, 2, none⟩ v2).setCell ⟨g, 3, none⟩ v3).setCell ⟨g, 4, none⟩ v4).setCell ⟨g, 5, none⟩ v5).setCell ⟨g, 6, none⟩ v6).setCell ⟨g, 7, none⟩ v7) :=
  below_low (below_low (below_low (below_low (below_low (below_low (below_low (below_low h _ _ hg) _ _ hg) _ _ hg) _ _ hg) _ _ hg) _ _ hg) _ _ hg) _ _ hg
theorem below8a {B g : Nat} {w W : World} (h : Below B w W) (hg : B ≤ g) (hs : B ≤ W.heap.size) (v0 v1 v2 v3 v4 v5 v6 v7 : Value) (o : Obj) : Below B w (((((((((W.setCell ⟨g, 0, none⟩ v0).setCell ⟨g, 1, none⟩ v1).setCell ⟨g, 2, none⟩ v2).setCell ⟨g, 3, none⟩ v3).setCell ⟨g, 4, none⟩ v4).setCell ⟨g, 5, none⟩ v5).setCell ⟨g, 6, none⟩ v6).setCell ⟨g, 7, none⟩ v7).alloc o) :=
  (below8 h hg v0 v1 v2 v3 v4 v5 v6 v7).alloc (by simpa [World.setCell] using hs) o

set_option maxHeartbeats 2000000 in
set_option maxRecDepth 100000 in
theorem kget_none (S : Nat → Prop) (B : Nat) (A : Tab) (hA : A.Good) (T : Nat → Tk) (w : World) (v : Value) (h : PKTab S B w A T v) (x : Int) (hf : A.find x = none) :
    Calls Tryz.prog 52 #[v, .int .i64 x] w fun e w' => e = .returned (.tuple #[zT, errV 20]) ∧ Below w.heap.size w w' := by
  obtain ⟨b, g1, c1, g2, c2, g3, c3, rfl, h, _⟩ := h
  have HF := Lib.hid (fun W (hb : Below w.heap.size w W) => kfind B A T hA W b g1 c1 g2 c2 g3 c3 (h.below hb) x)
  rw [findV_none hf] at HF
  obtain ⟨WA, hWA⟩ : ∃ WA, WA = w.alloc (.cells #[.int .i64 0, .slice none 0 0, .int .i64 0, .int .i64 0, .int .i64 0, .int .i64 0, .int .i64 0, .int .i64 0] KT) := ⟨_, rfl⟩
  have HB := Lib.hid (show Below w.heap.size w WA from by rw [hWA]; exact (Below.refl _ _).alloc (Nat.le_refl _) _)
  have HT := Lib.hid (show HasT WA w.heap.size 0 (.slice none 0 0) kZ from by rw [hWA]; exact hasT_new w 0 _ kZ)
  have HW := Lib.hid hWA
  clear hWA h hA hf
  go_enter Tryz.func52, Tryz.ntmps52
  go_upto_region 1 with fail
  rw [← HW.out]
  go_wp2_with fail
  refine (HF.out _ HB.out).mono ?_
  rintro e w1 ⟨rfl, hb⟩
  have HB1 := Lib.hid (bnext HB.out hb)
  have HT1 := HT.out.below hb
  obtain ⟨x0, x1, x2, x3, x4, x5, x6, x7⟩ := HT1.cells
  have fr := fun j => has_free HT1 j
  have hlt := has_lt HT1
  have HL := Lib.hid (show w.heap.size ≤ w1.heap.size from by omega)
  clear HT1 hb
  go_wp2_with fail
  refine bodyPost_ret (v := .tuple #[zT, .iface 94 (.int .i64 20)]) (by simp [results, Tryz.results52, go_sem, x0, x1, x2, x3, x4, x5, x6, x7, hlt]) rfl ⟨rfl, ?_⟩
  exact below8a HB1.out (Nat.le_refl _) HL.out _ _ _ _ _ _ _ _ _
set_option maxHeartbeats 2000000 in
set_option maxRecDepth 100000 in
theorem kget_some (S : Nat → Prop) (B : Nat) (A : Tab) (hA : A.Good) (T : Nat → Tk) (w : World) (v : Value) (h : PKTab S B w A T v) (hT : IsSl T) (x : Int) (i : Nat) (hf : A.find x = some i) :
    Calls Tryz.prog 52 #[v, .int .i64 x] w fun e w' => e = .returned (.tuple #[tV (T i).p (T i).s (T i).k, .nilIface]) ∧ Below w.heap.size w w' := by
  obtain ⟨b, g1, c1, g2, c2, g3, c3, rfl, h, _⟩ := h
  have HF := Lib.hid (fun W (hb : Below w.heap.size w W) => kfind B A T hA W b g1 c1 g2 c2 g3 c3 (h.below hb) x)
  rw [findV_some hf] at HF
  obtain ⟨hi, _, _⟩ := find_inv hf
  have n4 := hA.n4
  have HP := Lib.hid (fun W (hb : Below w.heap.size w W) => h.below hb)
  obtain ⟨WA, hWA⟩ : ∃ WA, WA = w.alloc (.cells #[.int .i64 0, .slice none 0 0, .int .i64 0, .int .i64 0, .int .i64 0, .int .i64 0, .int .i64 0, .int .i64 0] KT) := ⟨_, rfl⟩
  have HB := Lib.hid (show Below w.heap.size w WA from by rw [hWA]; exact (Below.refl _ _).alloc (Nat.le_refl _) _)
  have HT := Lib.hid (show HasT WA w.heap.size 0 (.slice none 0 0) kZ from by rw [hWA]; exact hasT_new w 0 _ kZ)
  have HW := Lib.hid hWA
  obtain ⟨t, ht⟩ : ∃ t, t = T i := ⟨_, rfl⟩
  rw [← ht]
  have HTI := Lib.hid ht
  clear hWA h hA hf ht
  obtain ⟨tq, tc, hq⟩ := hT i
  rw [← HTI.out] at hq
  obtain ⟨tp, ts, tn, tf, ⟨kg, ko, kn, kd, kc, kt⟩⟩ := t
  dsimp only at hq
  subst hq
  dsimp only
  go_enter Tryz.func52, Tryz.ntmps52
  go_upto_region 1 with fail
  rw [← HW.out]
  go_wp2_with fail
  refine (HF.out _ HB.out).mono ?_
  rintro e w1 ⟨rfl, hb⟩
  have HB1 := Lib.hid (bnext HB.out hb)
  have HT1 := HT.out.below hb
  obtain ⟨x0, x1, x2, x3, x4, x5, x6, x7⟩ := HT1.cells
  have fr := fun j => has_free HT1 j
  have h1 := HP.out w1 HB1.out
  have f3 := h1.f3
  obtain ⟨q0, q1, q2, q3, q4, q5, q6, q7, _⟩ := h1.cells hi
  rw [← HTI.out] at q0 q1 q2 q3 q4 q5 q6 q7
  dsimp only at q0 q1 q2 q3 q4 q5 q6 q7
  have z0 : (0 : Int) ≤ (i : Int) := by omega
  have z1 : (i : Int) < (A.gens.length : Int) := by omega
  clear HT1 hb h1
  go_wp2_with fail
  refine bodyPost_ret (v := .tuple #[tV tp (.slice tq tn tc) ⟨kg, ko, kn, kd, kc, kt⟩, .nilIface]) (by simp [results, Tryz.results52, go_sem, x0, x1, x2, x3, x4, x5, x6, x7]) rfl ⟨rfl, ?_⟩
  exact below8 HB1.out (Nat.le_refl _) _ _ _ _ _ _ _ _
set_option maxHeartbeats 2000000 in
set_option maxRecDepth 100000 in
theorem kset_none (S : Nat → Prop) (B : Nat) (A : Tab) (hA : A.Good) (T : Nat → Tk) (w : World) (v : Value) (h : PKTab S B w A T v) (x p : Int) (s : Value) (k : Ac) (hf : A.find x = none) :
    Calls Tryz.prog 38 #[v, .int .i64 x, tV p s k] w fun e w' => e = .returned (errV 20) ∧ Below w.heap.size w w' := by
  obtain ⟨b, g1, c1, g2, c2, g3, c3, rfl, h, _⟩ := h
  obtain ⟨kg, ko, kn, kd, kc, kt⟩ := k
  have HF := Lib.hid (fun W (hb : Below w.heap.size w W) => kfind B A T hA W b g1 c1 g2 c2 g3 c3 (h.below hb) x)
  rw [findV_none hf] at HF
  obtain ⟨WA, hWA⟩ : ∃ WA, WA = w.alloc (.cells #[.int .i64 p, s, .int .i64 kg, .int .i64 ko, .int .i64 kn, .int .i64 kd, .int .i64 kc, .int .i64 kt] KT) := ⟨_, rfl⟩
  have HB := Lib.hid (show Below w.heap.size w WA from by rw [hWA]; exact (Below.refl _ _).alloc (Nat.le_refl _) _)
  have HW := Lib.hid hWA
  clear hWA h hA hf
  go_enter Tryz.func38, Tryz.ntmps38
  go_upto_region 1 with fail
  rw [← HW.out]
  go_wp2_with fail
  refine (HF.out _ HB.out).mono ?_
  rintro e w1 ⟨rfl, hb⟩
  have HB1 := Lib.hid (bnext HB.out hb)
  clear hb
  go_wp2_with fail
  go_ret
  exact ⟨rfl, HB1.out⟩
set_option maxHeartbeats 4000000 in
set_option maxRecDepth 100000 in
theorem kset_some (S : Nat → Prop) (B : Nat) (A : Tab) (hA : A.Good) (T : Nat → Tk) (w : World) (v : Value) (h : PKTab S B w A T v) (x p : Int) (q : Option Addr) (n c : Nat) (f : Nat → Jb) (k : Ac) (i : Nat) (hf : A.find x = some i) :
    Calls Tryz.prog 38 #[v, .int .i64 x, tV p (.slice q n c) k] w (ActK S B w A (upd T i ⟨p, .slice q n c, n, f, k⟩) v .nilIface) := by
  obtain ⟨b, g1, c1, g2, c2, g3, c3, rfl, h, HS⟩ := h
  obtain ⟨kg, ko, kn, kd, kc, kt⟩ := k
  have HF := Lib.hid (fun W (hb : Below w.heap.size w W) => kfind B A T hA W b g1 c1 g2 c2 g3 c3 (h.below hb) x)
  rw [findV_some hf] at HF
  obtain ⟨hi, _, _⟩ := find_inv hf
  have n4 := hA.n4
  have HP := Lib.hid (fun W (hb : Below w.heap.size w W) => h.below hb)
  obtain ⟨WA, hWA⟩ : ∃ WA, WA = w.alloc (.cells #[.int .i64 p, .slice q n c, .int .i64 kg, .int .i64 ko, .int .i64 kn, .int .i64 kd, .int .i64 kc, .int .i64 kt] KT) := ⟨_, rfl⟩
  have HB := Lib.hid (show Below w.heap.size w WA from by rw [hWA]; exact (Below.refl _ _).alloc (Nat.le_refl _) _)
  have HT := Lib.hid (show HasT WA w.heap.size p (.slice q n c) ⟨kg, ko, kn, kd, kc, kt⟩ from by rw [hWA]; exact hasT_new w p (.slice q n c) ⟨kg, ko, kn, kd, kc, kt⟩)
  have HW := Lib.hid hWA
  have HS2 := Lib.hid HS
  clear hWA h hA hf HS
  go_enter Tryz.func38, Tryz.ntmps38
  go_upto_region 1 with fail
  rw [← HW.out]
  go_wp2_with fail
  refine (HF.out _ HB.out).mono ?_
  rintro e w1 ⟨rfl, hb⟩
  have HB1 := Lib.hid (bnext HB.out hb)
  have HT1 := HT.out.below hb
  obtain ⟨x0, x1, x2, x3, x4, x5, x6, x7⟩ := HT1.cells
  have h1 := HP.out w1 HB1.out
  have H1 := Lib.hid h1
  have f3 := h1.f3
  obtain ⟨q0, q1, q2, q3, q4, q5, q6, q7, fr⟩ := h1.cells hi
  generalize (T i).p = y0 at *
  generalize (T i).s = y1 at *
  generalize (T i).k.g = y2 at *
  generalize (T i).k.o = y3 at *
  generalize (T i).k.n = y4 at *
  generalize (T i).k.d = y5 at *
  generalize (T i).k.c = y6 at *
  generalize (T i).k.t = y7 at *
  have z0 : (0 : Int) ≤ (i : Int) := by omega
  have z1 : (i : Int) < (A.gens.length : Int) := by omega
  clear HT1 hb h1
  go_wp2_with fail
  go_region
  go_wp2_with fail
  go_ret
  have h2 := (H1.out.task i ⟨p, .slice q n c, n, f, ⟨kg, ko, kn, kd, kc, kt⟩⟩ A.list).drew
  exact ⟨rfl, ⟨b, g1, c1, g2, c2, g3, c3, rfl, h2, HS2.out⟩, (keeps_below HB1.out (far_set8 (Keeps.refl S w1) g3 i ⟨p, .slice q n c, n, f, ⟨kg, ko, kn, kd, kc, kt⟩⟩ (by rw [HS2.out]; simp))).drew⟩
end Go.Proofs.YthbkinopgialmaaGreatDoor
/- The program's Drop, Add of a table of tasks; no condition but those that each row names. -/
namespace Go.Proofs.YthbkinopgialmaaGreatDoor
open Go.RowKit Tsk

set_option maxHeartbeats 1000000 in
set_option maxRecDepth 100000 in
theorem kdrop_none (S : Nat → Prop) (B : Nat) (A : Tab) (hA : A.Good) (T : Nat → Tk) (w : World) (v : Value) (h : PKTab S B w A T v) (x : Int) (hf : A.find x = none) :
    Calls Tryz.prog 53 #[v, .int .i64 x] w fun e w' => e = .returned (errV 20) ∧ Below w.heap.size w w' := by
  obtain ⟨b, g1, c1, g2, c2, g3, c3, rfl, h, _⟩ := h
  have HF := Lib.hid (kfind B A T hA w b g1 c1 g2 c2 g3 c3 h x)
  rw [findV_none hf] at HF
  clear hf h hA
  go_enter Tryz.func53, Tryz.ntmps53
  go_wp2_with fail
  refine HF.out.mono ?_
  rintro e w1 ⟨rfl, hb⟩
  have HB := Lib.hid hb
  clear hb
  go_wp2_with fail
  go_ret
  exact ⟨rfl, HB.out⟩
set_option maxHeartbeats 4000000 in
set_option maxRecDepth 100000 in
theorem kdrop_some (S : Nat → Prop) (B : Nat) (A : Tab) (hA : A.Good) (T : Nat → Tk) (w : World) (v : Value) (h : PKTab S B w A T v) (x : Int) (i : Nat) (hf : A.find x = some i) :
    Calls Tryz.prog 53 #[v, .int .i64 x] w (ActK S B w (A.dropAt i) (upd T i tk0) v .nilIface) := by
  obtain ⟨b, g1, c1, g2, c2, g3, c3, rfl, h, HS⟩ := h
  have HF := Lib.hid (kfind B A T hA w b g1 c1 g2 c2 g3 c3 h x)
  rw [findV_some hf] at HF
  obtain ⟨hi, _, _⟩ := find_inv hf
  have hlt := hA.lt
  have n4 := hA.n4
  obtain ⟨gg0, gg1⟩ := hA.g1 i hi
  have HP := Lib.hid (fun W (hb : Below w.heap.size w W) => h.below hb)
  have HS2 := Lib.hid HS
  clear hf h hA HS
  go_enter Tryz.func53, Tryz.ntmps53
  go_wp2_with fail
  refine HF.out.mono ?_
  rintro e w1 ⟨rfl, hb⟩
  have HG := Lib.hid (show g2 < w1.heap.size ∧ g3 < w1.heap.size from ⟨(HP.out w1 hb).lts.2.2.1.2, (HP.out w1 hb).lts.2.2.2.2⟩)
  obtain ⟨W1, hW1⟩ : ∃ W1, W1 = w1.alloc (.cells #[.int .i64 0, .slice none 0 0, .int .i64 0, .int .i64 0, .int .i64 0, .int .i64 0, .int .i64 0, .int .i64 0] KT) := ⟨_, rfl⟩
  have HB1 := Lib.hid (show Below w.heap.size w W1 from by rw [hW1]; exact hb.alloc hb.size _)
  have HT1 := Lib.hid (show HasT W1 w1.heap.size 0 (.slice none 0 0) kZ from by rw [hW1]; exact hasT_new w1 0 _ kZ)
  have HW := Lib.hid hW1
  clear hW1 hb
  go_upto_region 5 with fail
  rw [← HW.out]
  obtain ⟨x0, x1, x2, x3, x4, x5, x6, x7⟩ := HT1.out.cells
  have h1 := HP.out W1 HB1.out
  have H1 := Lib.hid h1
  have f2 := h1.f2
  have f3 := h1.f3
  obtain ⟨q0, q1, q2, q3, q4, q5, q6, q7, fr⟩ := h1.cells hi
  generalize (T i).p = y0 at *
  generalize (T i).s = y1 at *
  generalize (T i).k.g = y2 at *
  generalize (T i).k.o = y3 at *
  generalize (T i).k.n = y4 at *
  generalize (T i).k.d = y5 at *
  generalize (T i).k.c = y6 at *
  generalize (T i).k.t = y7 at *
  have p3 := h1.own.t.cellAt i (by omega)
  have p4 := h1.own.t.frozenAt i
  have n23 := h1.own.n23
  have n32 : ¬ g3 = g2 := fun e => n23 e.symm
  have m2 := h1.n2
  have m3 := h1.n3
  obtain ⟨k2, k3⟩ := HG.out
  have k4 : ¬ w1.heap.size = g2 := by omega
  have k5 : ¬ w1.heap.size = g3 := by omega
  have k6 : ¬ g2 = w1.heap.size := by omega
  have k7 : ¬ g3 = w1.heap.size := by omega
  have z0 : (0 : Int) ≤ (i : Int) := by omega
  have z1 : (i : Int) < (A.gens.length : Int) := by omega
  rw [hlt] at f2
  rw [bools_at (by omega)] at p3
  clear h1 k2 k3
  go_cut [] (fun wx => Hid (PK B wx { A with taken := A.taken.set i false, list := A.list.set i 0 } (upd T i tk0) b g1 c1 g2 c2 g3 c3) ∧ Hid (Keeps S W1 wx))
  case first =>
    go_region
    go_wp2_with fail
    go_meet
    exact ⟨Lib.hid ((H1.out.taken i false).task i tk0 (A.list.set i 0)).drew, Lib.hid (far_set8 ((Keeps.refl S W1).setS _ _ (by rw [HS2.out]; simp)) g3 i tk0 (by rw [HS2.out]; simp)).drew⟩
  case rest =>
    obtain ⟨K1, K2⟩ := hcut
    have f1 := K1.out.f1
    simp only at f1
    have p1 := K1.out.own.g.cellAt i (by simp; omega)
    have p2 := K1.out.own.g.frozenAt i
    simp only [] at p1
    rw [ints_at hi] at p1
    have hg : A.gens.getD i 0 = A.g i := rfl
    rw [hg] at p1
    clear f2 f3 p3 p4 q0 q1 q2 q3 q4 q5 q6 q7 fr x0 x1 x2 x3 x4 x5 x6 x7 hg
    go_wp2_with fail
    go_ret
    refine ⟨rfl, ⟨b, g1, c1, g2, c2, g3, c3, rfl, ?_, HS2.out⟩, ?_⟩
    · exact K1.out.gens i (A.g i + 1)
    · exact (keeps_below HB1.out K2.out).setS _ _ (by rw [HS2.out]; simp)
set_option maxHeartbeats 1000000 in
set_option maxRecDepth 100000 in
theorem kadd_none (S : Nat → Prop) (B : Nat) (A : Tab) (hA : A.Good) (T : Nat → Tk) (w : World) (v : Value) (h : PKTab S B w A T v) (p : Int) (s : Value) (k : Ac) (hf : A.free = none) :
    Calls Tryz.prog 47 #[v, tV p s k] w fun e w' => e = .returned (.tuple #[.int .i64 0, errV 30]) ∧ Below w.heap.size w w' := by
  obtain ⟨b, g1, c1, g2, c2, g3, c3, rfl, h, _⟩ := h
  obtain ⟨kg, ko, kn, kd, kc, kt⟩ := k
  have HF := Lib.hid (firstIn_inv_none hf)
  have hlt := hA.lt
  have n4 := hA.n4
  obtain ⟨WA, hWA⟩ : ∃ WA, WA = w.alloc (.cells #[.int .i64 p, s, .int .i64 kg, .int .i64 ko, .int .i64 kn, .int .i64 kd, .int .i64 kc, .int .i64 kt] KT) := ⟨_, rfl⟩
  have HB := Lib.hid (show Below w.heap.size w WA from by rw [hWA]; exact (Below.refl _ _).alloc (Nat.le_refl _) _)
  have HA1 := Lib.hid (h.below HB.out)
  have HW := Lib.hid hWA
  have f1 := HA1.out.f1
  have f2 := HA1.out.f2
  rw [hlt] at f2
  have HLT := Lib.hid hlt
  clear hWA hf h hA hlt
  go_enter Tryz.func47, Tryz.ntmps47
  go_upto_region 1 with fail
  rw [← HW.out]
  go_wp2_with fail
  go_loop [6, 7, 13] (fun _ _ i => ∃ k : Nat, k ≤ A.gens.length ∧ i = .int .i64 k) (fun _ _ i => A.gens.length - (intOf i).toNat)
  case atStart => exact ⟨0, Nat.zero_le _, rfl⟩
  case round =>
    obtain ⟨k, hk, rfl⟩ := hrel
    by_cases hlt : k < A.gens.length
    · have q := HA1.out.own.g.cellAt k (by omega)
      rw [ints_at hlt] at q
      have q3 := HA1.out.own.t.cellAt k (by have := HLT.out; omega)
      rw [bools_at (by have := HLT.out; omega)] at q3
      have hf := HF.out k hlt
      unfold Tab.fr Tab.t Tab.g at hf
      have z0 : (0 : Int) ≤ (k : Int) := by omega
      have z1 : (k : Int) < (A.gens.length : Int) := by omega
      generalize A.gens.getD k 0 = g at *
      generalize A.taken.getD k false = t at *
      cases t with
      | true =>
        clear hf
        go_wp2_with fail
        go_round
        case rel => exact ⟨k + 1, by omega, by go_num⟩
        case measure => simp [intOf]; omega
      | false =>
        have h2 : 1023 < g := by simp at hf; omega
        clear hf
        go_wp2_with fail
        go_round
        case rel => exact ⟨k + 1, by omega, by go_num⟩
        case measure => simp [intOf]; omega
    · go_wp2_with fail
      go_ret2
      exact ⟨rfl, HB.out⟩

set_option maxHeartbeats 4000000 in
set_option maxRecDepth 100000 in
theorem kadd_some (S : Nat → Prop) (B : Nat) (A : Tab) (hA : A.Good) (T : Nat → Tk) (w : World) (v : Value) (h : PKTab S B w A T v) (p : Int) (q : Option Addr) (n c : Nat) (f : Nat → Jb) (k : Ac) (y : Int) (i : Nat) (hf : A.free = some i) :
    Calls Tryz.prog 47 #[v, tV p (.slice q n c) k] w (ActK S B w (A.addAt i y) (upd T i ⟨p, .slice q n c, n, f, k⟩) v (.tuple #[.int .i64 (A.hd i), .nilIface])) := by
  obtain ⟨b, g1, c1, g2, c2, g3, c3, rfl, h, HS⟩ := h
  obtain ⟨kg, ko, kn, kd, kc, kt⟩ := k
  have HS2 := Lib.hid HS
  clear HS
  obtain ⟨hi, hti, hgi⟩ := fr_iff hf
  have HFR := Lib.hid (show ∀ j, j < i → A.fr j = false from fun j hj => by
    have hf' := hf
    unfold Tab.free firstIn at hf'
    rw [List.find?_eq_some_iff_getElem] at hf'
    obtain ⟨_, n, hn, e, hall⟩ := hf'
    simp at e
    subst e
    have := hall j hj
    simpa using this)
  have hlt := hA.lt
  have n4 := hA.n4
  have hp : okP A.kind i (A.g i) := ⟨hA.k1, hA.k3, by omega, by omega, (hA.g1 i hi).1, hgi⟩
  have HM := Lib.hid (fun w => make_ok A.kind i (A.g i) w hp)
  have hh : A.hd i = mkH A.kind i (A.g i) := rfl
  rw [hh]
  have HTI := Lib.hid hti
  have HGI := Lib.hid hgi
  obtain ⟨WA, hWA⟩ : ∃ WA, WA = w.alloc (.cells #[.int .i64 p, .slice q n c, .int .i64 kg, .int .i64 ko, .int .i64 kn, .int .i64 kd, .int .i64 kc, .int .i64 kt] KT) := ⟨_, rfl⟩
  have HB := Lib.hid (show Below w.heap.size w WA from by rw [hWA]; exact (Below.refl _ _).alloc (Nat.le_refl _) _)
  have HT := Lib.hid (show HasT WA w.heap.size p (.slice q n c) ⟨kg, ko, kn, kd, kc, kt⟩ from by rw [hWA]; exact hasT_new w p (.slice q n c) ⟨kg, ko, kn, kd, kc, kt⟩)
  have HP := Lib.hid (h.below HB.out)
  have HW := Lib.hid hWA
  have f0 := HP.out.f0
  have f1 := HP.out.f1
  have f2 := HP.out.f2
  have f3 := HP.out.f3
  rw [hlt] at f2
  have HLT := Lib.hid hlt
  have n23 := h.own.n23
  have n32 : ¬ g3 = g2 := fun e => n23 e.symm
  have m2 := h.n2
  have m3 := h.n3
  obtain ⟨k1, k2, k3, k4⟩ := h.lts
  have l4 : ¬ w.heap.size = g2 := by omega
  have l5 : ¬ w.heap.size = g3 := by omega
  have l6 : ¬ g2 = w.heap.size := by omega
  have l7 : ¬ g3 = w.heap.size := by omega
  clear hf h hA hlt hp hh hti hgi hWA k1 k2 k3 k4
  go_enter Tryz.func47, Tryz.ntmps47
  go_upto_region 1 with fail
  rw [← HW.out]
  go_wp2_with fail
  go_loop [6, 7, 13] (fun _ _ i' => ∃ k : Nat, k ≤ i ∧ i' = .int .i64 k) (fun _ _ i => A.gens.length - (intOf i).toNat)
  case atStart => exact ⟨0, Nat.zero_le _, rfl⟩
  case round =>
    obtain ⟨k, hk, rfl⟩ := hrel
    have hlt : k < A.gens.length := by omega
    have r1 := HP.out.own.g.cellAt k (by omega)
    rw [ints_at hlt] at r1
    have r3 := HP.out.own.t.cellAt k (by have := HLT.out; omega)
    rw [bools_at (by have := HLT.out; omega)] at r3
    have z0 : (0 : Int) ≤ (k : Int) := by omega
    have z1 : (k : Int) < (A.gens.length : Int) := by omega
    by_cases hki : k = i
    · subst hki
      rw [show A.taken.getD k false = false from HTI.out] at r3
      rw [show A.gens.getD k 0 = A.g k from rfl] at r1
      have hg := HGI.out
      obtain ⟨x0, x1, x2, x3, x4, x5, x6, x7⟩ := HT.out.cells
      obtain ⟨q0, q1, q2, q3, q4, q5, q6, q7, fr⟩ := HP.out.cells hlt
      generalize (T k).p = y0 at *
      generalize (T k).s = y1 at *
      generalize (T k).k.g = y2 at *
      generalize (T k).k.o = y3 at *
      generalize (T k).k.n = y4 at *
      generalize (T k).k.d = y5 at *
      generalize (T k).k.c = y6 at *
      generalize (T k).k.t = y7 at *
      have r4 := HP.out.own.t.frozenAt k
      go_upto_region 5 with fail
      go_cut [] (fun wx => Hid (PK B wx (A.addAt k y) (upd T k ⟨p, .slice q n c, n, f, ⟨kg, ko, kn, kd, kc, kt⟩⟩) b g1 c1 g2 c2 g3 c3) ∧ Hid (Keeps S w wx))
      case first =>
        go_region
        go_wp2_with fail
        go_meet
        exact ⟨Lib.hid ((HP.out.taken k true).task k ⟨p, .slice q n c, n, f, ⟨kg, ko, kn, kd, kc, kt⟩⟩ (A.list.set k y)).drew, Lib.hid (far_set8 ((Keeps.of_below HB.out).setS _ _ (by rw [HS2.out]; simp)) g3 k ⟨p, .slice q n c, n, f, ⟨kg, ko, kn, kd, kc, kt⟩⟩ (by rw [HS2.out]; simp)).drew⟩
      case rest =>
        obtain ⟨K1, K2⟩ := hcut
        have f0' := K1.out.f0
        have ek : (A.addAt k y).kind = A.kind := rfl
        rw [ek] at f0'
        clear r1 r3 r4 f0 f1 f2 f3 q0 q1 q2 q3 q4 q5 q6 q7 fr x0 x1 x2 x3 x4 x5 x6 x7 ek
        go_wp2_with fail
        refine (HM.out _).mono ?_
        rintro e w1 ⟨rfl, rfl⟩
        go_wp2_with fail
        go_ret2
        exact ⟨rfl, ⟨b, g1, c1, g2, c2, g3, c3, rfl, K1.out, HS2.out⟩, K2.out⟩
    · have hf := HFR.out k (by omega)
      unfold Tab.fr Tab.t Tab.g at hf
      generalize A.gens.getD k 0 = g at *
      generalize A.taken.getD k false = t at *
      cases t with
      | true =>
        clear hf
        go_wp2_with fail
        go_round
        case rel => exact ⟨k + 1, by omega, by go_num⟩
        case measure => simp [intOf]; omega
      | false =>
        have h2 : 1023 < g := by simp at hf; omega
        clear hf
        go_wp2_with fail
        go_round
        case rel => exact ⟨k + 1, by omega, by go_num⟩
        case measure => simp [intOf]; omega
end Go.Proofs.YthbkinopgialmaaGreatDoor
/- The program's New of a table of tasks: refused where the document refuses, else free slots of generation 1; no condition. -/
namespace Go.Proofs.YthbkinopgialmaaGreatDoor
open Go.RowKit Tsk

/-- What make lays. -/
def tkZ (n : Nat) : Array Value := (tkL (fun _ => tk0) n).toArray
theorem tkZ_made (n : Nat) : madeCells (Value.agg #[.int .i64 0, .slice none 0 0, .int .i64 0, .int .i64 0, .int .i64 0, .int .i64 0, .int .i64 0, .int .i64 0]).cells (n * 8) = tkZ n := by
  apply Array.toList_inj.1
  unfold tkZ
  apply List.ext_getElem?
  intro m
  by_cases hm : m < n * 8
  · have e : m = m / 8 * 8 + m % 8 := by omega
    conv => rhs; rw [e]
    simp only []
    rw [tkL_at _ (by omega) _ (by omega)]
    have hr : m % 8 = 0 ∨ m % 8 = 1 ∨ m % 8 = 2 ∨ m % 8 = 3 ∨ m % 8 = 4 ∨ m % 8 = 5 ∨ m % 8 = 6 ∨ m % 8 = 7 := by omega
    have hc : (madeCells (Value.agg #[.int .i64 0, .slice none 0 0, .int .i64 0, .int .i64 0, .int .i64 0, .int .i64 0, .int .i64 0, .int .i64 0]).cells (n * 8)).toList[m]? = some ((Value.agg #[.int .i64 0, .slice none 0 0, .int .i64 0, .int .i64 0, .int .i64 0, .int .i64 0, .int .i64 0, .int .i64 0]).cells[m % 8]!) := by
      simp [madeCells, hm, Value.cells]
    rw [hc]
    rcases hr with h | h | h | h | h | h | h | h <;> rw [h] <;> rfl
  · rw [List.getElem?_eq_none (by simp [size_madeCells]; omega), List.getElem?_eq_none (by simp [tkL_len]; omega)]
theorem make_tasks (n : Nat) (h : n * 80 ≤ 281474976710656) (w : World) : (Instr.makeSlice 29 (.int .i64 (n : Int)) (.int .i64 (n : Int))).run Tryz.prog w = .ok (.slice (some ⟨w.heap.size, 0, none⟩) n n) (w.alloc (.cells (tkZ n) KT)) := by
  obtain ⟨i, hi, hzz⟩ := Option.map_eq_some_iff.1 Tryz.infTk
  simp only [Prod.mk.injEq] at hzz
  obtain ⟨hz, hs, hb⟩ := hzz
  have hr := run_make (P := Tryz.prog) w 29 KT i _ Tryz.underlying29 hi hz .i64 .i64 n n (by omega) (Int.le_refl _) (by rw [hb]; omega) (by omega)
  rw [hs, Int.toNat_natCast, tkZ_made] at hr
  exact hr
theorem own_tkZ {B : Nat} (W : World) (n s : Nat) (hs : s = W.heap.size) (hb : B ≤ s) (hn : n ≤ 4096) : (W.alloc (.cells (tkZ n) KT)).ownsRow B KT 8 (.slice (some ⟨s, 0, none⟩) n n) n (tkL (fun _ => tk0) n) := by
  subst hs
  have h := World.ownsRow_lit (base := B) (e := KT) (size := 8) W (tkZ n) n hb (by unfold maxLen; omega) (by unfold tkZ; simp [tkL_len])
  exact h
theorem own_drew8 {B e n z : Nat} {w : World} {v : Value} {xs : List Value} (h : w.ownsRow B e z v n xs) : w.drew.ownsRow B e z v n xs := h

set_option maxHeartbeats 1000000 in
set_option maxRecDepth 100000 in
theorem knew_no (kind many : Int) (w : World) (h : ¬ (1 ≤ kind ∧ kind ≤ 3 ∧ 1 ≤ many ∧ many ≤ 4096)) :
    Calls Tryz.prog 15 #[.int .i64 kind, .int .i64 many] w fun e w' => e = .returned (.tuple #[.pointer none, .iface 94 (.int .i64 1)]) ∧ w = w' := by
  by_cases h1 : many < 1
  · clear h
    go_enter Tryz.func15, Tryz.ntmps15
    go_wp2_with fail
    go_ret2
    exact ⟨rfl, rfl⟩
  · by_cases h2 : 4096 < many
    · clear h
      go_enter Tryz.func15, Tryz.ntmps15
      go_wp2_with fail
      go_ret2
      exact ⟨rfl, rfl⟩
    · have HM := Lib.hid (fun w => make_no kind 0 1 w (fun k => by unfold okP at k; omega))
      have h3 : 1 ≤ many := by omega
      have h4 : many ≤ 4096 := by omega
      clear h
      go_enter Tryz.func15, Tryz.ntmps15
      go_wp2_with fail
      refine (HM.out _).mono ?_
      rintro e w1 ⟨rfl, rfl⟩
      go_wp2_with fail
      go_ret2
      exact ⟨rfl, rfl⟩

theorem old1 (w : World) (T : TypeId) (b : Nat) (hb : b = w.heap.size) : (w.alloc (.cells #[.int .i64 1] T)).cell? ⟨b, 0, none⟩ = some (.int .i64 1) := by subst hb; simp
theorem old2 (w : World) (T : TypeId) (o : Obj) (b : Nat) (hb : b = w.heap.size) : ((w.alloc (.cells #[.int .i64 1] T)).alloc o).cell? ⟨b, 0, none⟩ = some (.int .i64 1) := by
  rw [World.cell?_alloc_lt _ _ ⟨b, 0, none⟩ (by simp [hb])]; exact old1 w T b hb
theorem old3 (w : World) (T : TypeId) (o o' : Obj) (b : Nat) (hb : b = w.heap.size) : (((w.alloc (.cells #[.int .i64 1] T)).alloc o).alloc o').cell? ⟨b, 0, none⟩ = some (.int .i64 1) := by
  rw [World.cell?_alloc_lt _ _ ⟨b, 0, none⟩ (by simp [hb]; omega)]; exact old2 w T o b hb
theorem pk_new {B : Nat} (W : World) (kind : Int) (n b r s2 s3 T : Nat) (hb : b = W.heap.size) (hB : B ≤ b) (h1 : W.ownsRow B 3 1 (.slice (some ⟨r, 0, none⟩) n n) n (ints (List.replicate n 1))) (h2 : W.ownsRow B 4 1 (.slice (some ⟨s2, 0, none⟩) n n) n (List.replicate n (.bool false)))
    (h3 : W.ownsRow B KT 8 (.slice (some ⟨s3, 0, none⟩) n n) n (tkL (fun _ => tk0) n)) (n12 : r ≠ s2) (n13 : r ≠ s3) (n23 : s2 ≠ s3) :
    PK B (W.alloc (.cells #[.int .i64 kind, .slice (some ⟨r, 0, none⟩) n n, .slice (some ⟨s2, 0, none⟩) n n, .slice (some ⟨s3, 0, none⟩) n n] T)) (Tab.new kind n) (fun _ => tk0) b r n s2 n s3 n := by
  subst hb
  have l1 := (h1.lt r rfl).2
  have l2 := (h2.lt s2 rfl).2
  have l3 := (h3.lt s3 rfl).2
  have hc : ∀ (cs : Array Value) j, (W.alloc (.cells cs T)).cell? ⟨W.heap.size, j, none⟩ = cs[j]? := fun cs j => cell_of_row _ _ j cs T (0, 0) (heap_alloc_new W _)
  have e1 : (Tab.new kind n).gens.length = n := by simp [Tab.new]
  have e2 : (Tab.new kind n).taken.length = n := by simp [Tab.new]
  refine ⟨hc _ 0, by rw [e1]; exact hc _ 1, by rw [e2]; exact hc _ 2, by rw [e1]; exact hc _ 3, ⟨?_, ?_, ?_, n12, n13, n23⟩, hB, by omega, by omega, by omega⟩
  · rw [e1]; exact h1.alloc _
  · rw [e2]
    have : bools (Tab.new kind n).taken = List.replicate n (.bool false) := by simp [bools, Tab.new]
    rw [this]; exact h2.alloc _
  · rw [e1]; exact h3.alloc _

set_option maxHeartbeats 4000000 in
set_option maxRecDepth 100000 in
theorem knew_ok (kind : Int) (n : Nat) (w : World) (k1 : 1 ≤ kind) (k3 : kind ≤ 3) (h1 : 1 ≤ n) (h2 : n ≤ 4096) :
    Calls Tryz.prog 15 #[.int .i64 kind, .int .i64 n] w fun e w' => ∃ S v, e = .returned (.tuple #[v, .nilIface]) ∧ PKTab S w.heap.size w' (Tab.new kind n) (fun _ => tk0) v ∧ Below w.heap.size w w' := by
  have HM := Lib.hid (fun w => make_ok kind 0 1 w ⟨k1, k3, by omega, by omega, by omega, by omega⟩)
  have hmk1 := fun w => run_make_row' (P := Tryz.prog) 25 3 (.int .i64 0) 8 Tryz.underlying25 Tryz.info3 rfl .i64 .i64 n (by omega) (by omega) w
  have hmk2 := fun w => run_make_row' (P := Tryz.prog) 26 4 (.bool false) 1 Tryz.underlying26 Tryz.info4 rfl .i64 .i64 n (by omega) (by omega) w
  have hmk3 := fun w => make_tasks n (by omega) w
  have HR := Lib.hid (fun w g c hg => repeat_ones w g c hg n h1 h2)
  have z1 : (1 : Int) ≤ (n : Int) := by omega
  have z2 : (n : Int) ≤ 4096 := by omega
  go_enter Tryz.func15, Tryz.ntmps15
  go_wp2_with fail
  refine (HM.out _).mono ?_
  rintro e w1 ⟨rfl, rfl⟩
  go_wp2_with fail
  go_cut [4, 5] (fun s4 s5 wx => ∃ b g1 c1 g2 c2 g3 c3, s4 = .pointer (some ⟨b, 0, none⟩) ∧ s5 = .nilIface ∧ Hid (PK w.heap.size wx (Tab.new kind n) (fun _ => tk0) b g1 c1 g2 c2 g3 c3) ∧ Below w.heap.size w wx)
  case first =>
    go_region_held3 (fun _ => True) (trivial) (first | (go_at_call 44; refine (HR.out _ _ _ (by first | (simp; done) | (simp only [World.cell?_drew]; first | (exact old1 _ _ _ (by first | rfl | (simp; done))) | (exact old2 _ _ _ _ (by first | rfl | (simp; done))) | (exact old3 _ _ _ _ _ (by first | rfl | (simp; done)))))).mono ?_; rintro e w1 ⟨r, rfl, hr, hb⟩))
    all_goals
      go_wp2_with fail
      go_meet
      have hr' := own_base (B' := w.heap.size) hr (by first | (simp; done) | (simp; omega))
      have hl := hr.lt r rfl
      have hz := hb.size
      simp at hl hz
    all_goals
      refine ⟨_, _, _, _, _, _, _, rfl, rfl, Lib.hid (pk_new _ kind n _ _ _ _ _ (by first | rfl | (simp; done)) (by omega) ?_ ?_ ?_ (by omega) (by omega) (by omega)), ?_⟩
      · repeat (first | exact hr' | refine World.ownsRow.alloc ?_ _)
      · repeat (first | exact own_made _ _ _ _ _ (by simp) (by omega) h2 | refine World.ownsRow.alloc ?_ _ | refine own_below ?_ hb | refine own_drew ?_)
      · repeat (first | exact own_tkZ _ _ _ (by simp) (by omega) h2 | refine World.ownsRow.alloc ?_ _ | refine own_under ?_ hb | refine own_drew8 ?_)
      · repeat (first | exact Below.refl _ _ | refine below_alloc ?_ _ | refine bnext ?_ hb | refine below_drew ?_)
  case rest =>
    obtain ⟨b, g1, c1, g2, c2, g3, c3, rfl, rfl, K, hb⟩ := hcut
    go_wp2_with fail
    go_ret2
    exact ⟨_, _, rfl, ⟨b, g1, c1, g2, c2, g3, c3, rfl, K.out, rfl⟩, hb⟩
end Go.Proofs.YthbkinopgialmaaGreatDoor
/- The document's own All of a table; no condition but those that each row names. -/
namespace Go.Proofs.YthbkinopgialmaaGreatDoor
open Go.RowKit

/-- What All answers. -/
def AllPost (S : Nat → Prop) (w : World) (A : Tab) (e : Ending) (w' : World) : Prop := ∃ v, e = .returned v ∧ Lst S w' v (ints A.all) ∧ Below w.heap.size w w'

set_option maxHeartbeats 2000000 in
set_option maxRecDepth 100000 in
theorem rall_any (S : Nat → Prop) (A : Tab) (hA : A.Good) (gs ts ls : Value) (w : World) (h : RT S w A gs ts ls) (hS : ∀ x, S x → x < w.heap.size) :
    Calls Tryz.prog 62 #[rv A.kind gs ts ls] w (AllPost S w A) := by
  obtain ⟨⟨p, cp, rfl, hm, hg⟩, ⟨q, cq, rfl, _, ht⟩, _⟩ := h
  obtain ⟨i0, hi, hz0, hz1, hz2⟩ := info_parts Tryz.info35
  have e1 := ints_len A.gens
  have e2 := bools_len A.taken
  have n4 := hA.n4
  have hlt := hA.lt
  rw [e1] at hm ⊢
  rw [e2, hlt]
  have HG := Lib.hid hg
  have HT := Lib.hid ht
  have HLT := Lib.hid hlt
  have HA := Lib.hid hA
  have HS := Lib.hid hS
  clear hg ht e1 e2 hlt hA hS
  have hb0 : ∀ o, Below w.heap.size w (w.alloc o) := fun o => (Below.refl _ _).alloc (Nat.le_refl _) o
  go_enter Tryz.func62, Tryz.ntmps62
  go_wp2_with fail
  go_loopw [3, 4] (fun x i wr => ∃ k : Nat, k ≤ A.gens.length ∧ i = .int .i64 k ∧ Hid (wr.ownsRow (w.heap.size + 1) 35 1 x (allTo A k).length (ints (allTo A k))) ∧ Below (w.heap.size + 1) (w.alloc (.cells #[.int .i64 A.kind, .slice p A.gens.length cp, .slice q A.gens.length cq, ls] 28)) wr ∧ Below w.heap.size w wr ∧
      wr.cell? ⟨w.heap.size, 0, none⟩ = some (.int .i64 A.kind) ∧ wr.cell? ⟨w.heap.size, 1, none⟩ = some (.slice p A.gens.length cp) ∧ wr.cell? ⟨w.heap.size, 2, none⟩ = some (.slice q A.gens.length cq)) (fun _ i _ => A.gens.length - (intOf i).toNat)
  case atStart => exact ⟨0, Nat.zero_le _, rfl, Lib.hid (World.ownsRow_nil _ _ _ _), Below.refl _ _, hb0 _, by simp, by simp, by simp⟩
  case round =>
    obtain ⟨k, hk, rfl, HX, hbb, hb, c0, c1, c2⟩ := hrel
    by_cases hlt : k < A.gens.length
    · obtain ⟨b, off, rfl, _, hd1⟩ := HT.out k _ (bools_at (by rw [HLT.out]; exact hlt))
      obtain ⟨b2, off2, rfl, _, hd2⟩ := HG.out k _ (ints_at hlt)
      have hc1 : wr.cell? ⟨b, off + k, none⟩ = _ := (hb.cell (p := ⟨b, off + k, none⟩) (cell_lt hd1)).trans hd1
      have hc2 : wr.cell? ⟨b2, off2 + k, none⟩ = _ := (hb.cell (p := ⟨b2, off2 + k, none⟩) (cell_lt hd2)).trans hd2
      have hblk := cell_lt hd2
      simp only at hblk
      clear hd1 hd2
      have z0 : (0 : Int) ≤ (k : Int) := by omega
      have z1 : (k : Int) < (A.gens.length : Int) := by omega
      cases htk : A.taken.getD k false with
      | true =>
        rw [htk] at hc1
        have hp : okP A.kind k (A.gens.getD k 0) := ⟨HA.out.k1, HA.out.k3, by omega, by omega, (HA.out.g1 k hlt).1, HA.out.gt k hlt htk⟩
        have HM := Lib.hid (fun w => rmk_ok A.kind k (A.gens.getD k 0) w hp)
        have hhd : mkH A.kind k (A.gens.getD k 0) = A.hd k := rfl
        rw [hhd] at HM
        have HE := Lib.hid (allTo_yes htk)
        have hn4 := allTo_len A k
        have hsz := hbb.size
        simp at hsz
        clear htk hp hhd
        generalize A.gens.getD k 0 = g at *
        have HC := Lib.hid (show ∀ W, Below (w.heap.size + 1) (w.alloc (.cells #[.int .i64 A.kind, .slice (some ⟨b2, off2, none⟩) A.gens.length cp, .slice (some ⟨b, off, none⟩) A.gens.length cq, ls] 28)) W → W.cell? ⟨w.heap.size, 0, none⟩ = some (.int .i64 A.kind) ∧ W.cell? ⟨w.heap.size, 1, none⟩ = some (.slice (some ⟨b2, off2, none⟩) A.gens.length cp) ∧ W.cell? ⟨w.heap.size, 2, none⟩ = some (.slice (some ⟨b, off, none⟩) A.gens.length cq) from fun W hW =>
          ⟨(hW.cell (p := ⟨w.heap.size, 0, none⟩) (by simp)).trans (by simp), (hW.cell (p := ⟨w.heap.size, 1, none⟩) (by simp)).trans (by simp), (hW.cell (p := ⟨w.heap.size, 2, none⟩) (by simp)).trans (by simp)⟩)
        have HGW := Lib.hid (fun w4 (hg4 : World.grownBy (wr.drew.alloc (.cells #[.int .i64 (A.hd k)] 35)) w4 (Value.ownBlock u3)) => ((below_drew hbb).alloc (by simp; omega) (.cells #[.int .i64 (A.hd k)] 35)).grown hg4 (by simp; omega) (fun g e => (HX.out.lt g e).1))
        have HB2 := Lib.hid (show b2 < w.heap.size + 1 from by have := hblk; omega)
        have HW := Lib.hid (fun w4 (hb4 : Below (w.heap.size + 1) (w.alloc (.cells #[.int .i64 A.kind, .slice (some ⟨b2, off2, none⟩) A.gens.length cp, .slice (some ⟨b, off, none⟩) A.gens.length cq, ls] 28)) w4) => (show w4.cell? ⟨w.heap.size, 0, none⟩ = some (.int .i64 A.kind) ∧ w4.cell? ⟨w.heap.size, 1, none⟩ = some (.slice (some ⟨b2, off2, none⟩) A.gens.length cp) ∧ w4.cell? ⟨b2, off2 + k, none⟩ = some (.int .i64 g) from
          ⟨(HC.out w4 hb4).1, (HC.out w4 hb4).2.1, ((hb4.cell (p := ⟨b2, off2 + k, none⟩) HB2.out).trans (hbb.cell (p := ⟨b2, off2 + k, none⟩) HB2.out).symm).trans hc2⟩))
        go_wp2_with fail
        go_region_held3 (fun w' => w'.cell? ⟨w.heap.size, 0, none⟩ = some (.int .i64 A.kind) ∧ w'.cell? ⟨w.heap.size, 1, none⟩ = some (.slice (some ⟨b2, off2, none⟩) A.gens.length cp) ∧ w'.cell? ⟨b2, off2 + k, none⟩ = some (.int .i64 g))
          (first | exact ⟨c0, c1, hc2⟩ | exact ⟨(World.cell?_alloc_lt _ _ ⟨w.heap.size, 0, none⟩ (by simp; omega)).trans c0, (World.cell?_alloc_lt _ _ ⟨w.heap.size, 1, none⟩ (by simp; omega)).trans c1, (World.cell?_alloc_lt _ _ ⟨b2, off2 + k, none⟩ (cell_lt hc2)).trans hc2⟩ | exact HW.out w4 hb4)
          (first
            | (go_at_call 34; refine (HM.out _).mono ?_; rintro e w1 ⟨rfl, rfl⟩)
            | ((refine step_append_lies _ (by rfl) (.tmp 17) (.tmp 27) 85 (by rfl) (w.heap.size + 1) 35 i0 (.int .i64 0) 1 8 Tryz.underlying85 hi hz0 hz1 hz2 rfl (by decide) _ _ _ (by rfl) ((own_drew HX.out).alloc _) ⟨wr.heap.size, 0, none⟩ 1 1 [.int .i64 (A.hd k)] (by rfl) rfl (news_one wr.drew _ _) (by intro u hu; simp at hu; subst hu; rfl) (by decide) (by unfold maxLen; omega) (by omega) (by simp; omega) (wr.heap.size + 1) (by simp) ?_; intro g' cap w4 hown4 hgrow4 hat4 hlt4; have hb4 := HGW.out w4 hgrow4)))
        go_wp2_with fail
        have HO := Lib.hid (show w4.ownsRow (w.heap.size + 1) 35 1 (.slice (some ⟨g', 0, none⟩) ((allTo A k).length + 1) cap) (allTo A (k + 1)).length (ints (allTo A (k + 1))) by
          rw [HE.out, ← ints_snoc, List.length_append]; exact hown4)
        obtain ⟨x0, x1, x2⟩ := HC.out w4 hb4
        go_roundw
        case rel => exact ⟨k + 1, by omega, by go_num, HO, hb4, (hb0 _).trans (hb4.mono (by simp)), x0, x1, x2⟩
        case measure => simp [intOf]; omega
      | false =>
        rw [htk] at hc1
        have HE := Lib.hid (allTo_no htk)
        clear htk
        go_wp2_with fail
        go_roundw
        case rel => exact ⟨k + 1, by omega, by go_num, by rw [HE.out]; exact HX, hbb, hb, c0, c1, c2⟩
        case measure => simp [intOf]; omega
    · have hk' : k = A.gens.length := by omega
      have HE := Lib.hid (show allTo A k = A.all by rw [hk']; rfl)
      have hn4 := allTo_len A k
      clear hk'
      go_wp2_with fail
      go_ret
      have ho := HX.out
      rw [HE.out] at ho hn4
      exact ⟨_, rfl, Lst.of_own ho (ints_len _) (by omega) (fun x h _ c => by have := HS.out x c; omega), hb⟩
end Go.Proofs.YthbkinopgialmaaGreatDoor
/- The library's slices.Clone of numbers and of bools: a row of its own with the same cells; asked: a slice with cells, of at most 4,096. -/
namespace Go.Proofs.YthbkinopgialmaaGreatDoor
open Go.RowKit

def ClonePost (w : World) (n : Nat) (E : TypeId) (xs : List Value) (e : Ending) (w' : World) : Prop :=
  ∃ g cap, e = .returned (.slice (some ⟨g, 0, none⟩) n cap) ∧ w'.ownsRow w.heap.size E 1 (.slice (some ⟨g, 0, none⟩) n cap) n xs ∧ Below w.heap.size w w'

set_option maxHeartbeats 1000000 in
set_option maxRecDepth 100000 in
theorem clone_ints (w : World) (b1 o1 n cp : Nat) (l : List Int) (hn : l.length = n) (h1 : 1 ≤ n) (h2 : n ≤ 4096) (hs : ∀ j u, (ints l)[j]? = some u → w.cell? ⟨b1, o1 + j, none⟩ = some u) :
    Calls Tryz.prog 92 #[.slice (some ⟨b1, o1, none⟩) n cp] w (ClonePost w n 3 (ints l)) := by
  obtain ⟨i0, hi, hz0, hz1, hz2⟩ := info_parts Tryz.info3
  have e1 := ints_len l
  rw [hn] at e1
  have k1 : b1 < w.heap.size := cell_lt (hs 0 _ (ints_at (by omega)))
  have HS := Lib.hid hs
  have E1 := Lib.hid e1
  clear hs e1 hn
  have hnil := fun w => Lib.run_eql_slice_nil (P := Tryz.prog) w 25 _ (some ⟨b1, o1, none⟩) n cp 0 0 Tryz.underlying25
  go_enter Tryz.func92, Tryz.ntmps92
  go_wp2_with (at_builtin; refine wpList_append_lies _ rfl _ _ 25 rfl w.heap.size 3 i0 (.int .i64 0) 1 8 Tryz.underlying25 hi hz0 hz1 hz2 rfl (by decide) (.slice (some ⟨w.heap.size, 0, none⟩) 0 0) 0 [] rfl (World.ownsRow_made _ _ 0 (Nat.le_refl _) (by simp [maxLen]) rfl) ⟨b1, o1, none⟩ n cp (ints l) rfl (by rw [E1.out, Nat.mul_one]) ?a1 ints_one h1 (by unfold maxLen; omega) (by omega) ?a2 (w.heap.size + 1) (by simp) ?_)
  case a1 =>
    intro j u hu
    rw [addr_plus]
    exact (World.cell?_alloc_lt _ _ ⟨b1, o1 + j, none⟩ k1).trans (HS.out j u hu)
  case a2 => simp
  intro g1 c1 w1 hown1 hgrow1 hat1 hlt1
  have hO := Lib.hid hown1
  have hB := Lib.hid hgrow1
  clear hown1 hgrow1 hat1
  go_wp2_with fail
  go_ret
  exact ⟨g1, c1, by simp, by simpa using hO.out, ((Below.refl w.heap.size w).alloc (Nat.le_refl _) _).grown hB.out (by simp) (fun k e => by simp [Value.ownBlock] at e; omega)⟩

set_option maxHeartbeats 1000000 in
set_option maxRecDepth 100000 in
theorem clone_bools (w : World) (b1 o1 n cp : Nat) (l : List Bool) (hn : l.length = n) (h1 : 1 ≤ n) (h2 : n ≤ 4096) (hs : ∀ j u, (bools l)[j]? = some u → w.cell? ⟨b1, o1 + j, none⟩ = some u) :
    Calls Tryz.prog 93 #[.slice (some ⟨b1, o1, none⟩) n cp] w (ClonePost w n 4 (bools l)) := by
  obtain ⟨i0, hi, hz0, hz1, hz2⟩ := info_parts Tryz.info4
  have e1 := bools_len l
  rw [hn] at e1
  have k1 : b1 < w.heap.size := cell_lt (hs 0 _ (bools_at (by omega)))
  have HS := Lib.hid hs
  have E1 := Lib.hid e1
  clear hs e1 hn
  have hnil := fun w => Lib.run_eql_slice_nil (P := Tryz.prog) w 26 _ (some ⟨b1, o1, none⟩) n cp 0 0 Tryz.underlying26
  go_enter Tryz.func93, Tryz.ntmps93
  go_wp2_with (at_builtin; refine wpList_append_lies _ rfl _ _ 26 rfl w.heap.size 4 i0 (.bool false) 1 1 Tryz.underlying26 hi hz0 hz1 hz2 rfl (by decide) (.slice (some ⟨w.heap.size, 0, none⟩) 0 0) 0 [] rfl (World.ownsRow_made _ _ 0 (Nat.le_refl _) (by simp [maxLen]) rfl) ⟨b1, o1, none⟩ n cp (bools l) rfl (by rw [E1.out, Nat.mul_one]) ?a1 bools_one h1 (by unfold maxLen; omega) (by omega) ?a2 (w.heap.size + 1) (by simp) ?_)
  case a1 =>
    intro j u hu
    rw [addr_plus]
    exact (World.cell?_alloc_lt _ _ ⟨b1, o1 + j, none⟩ k1).trans (HS.out j u hu)
  case a2 => simp
  intro g1 c1 w1 hown1 hgrow1 hat1 hlt1
  have hO := Lib.hid hown1
  have hB := Lib.hid hgrow1
  clear hown1 hgrow1 hat1
  go_wp2_with fail
  go_ret
  exact ⟨g1, c1, by simp, by simpa using hO.out, ((Below.refl w.heap.size w).alloc (Nat.le_refl _) _).grown hB.out (by simp) (fun k e => by simp [Value.ownBlock] at e; omega)⟩
end Go.Proofs.YthbkinopgialmaaGreatDoor
/- The program's All of a table; no condition but those that each row names. -/
namespace Go.Proofs.YthbkinopgialmaaGreatDoor
open Go.RowKit Tsk


set_option maxHeartbeats 2000000 in
set_option maxRecDepth 100000 in
theorem kall (S R : Nat → Prop) (B : Nat) (A : Tab) (hA : A.Good) (T : Nat → Tk) (w : World) (v : Value) (h : PKTab R B w A T v) (hS : ∀ x, S x → x < w.heap.size) :
    Calls Tryz.prog 36 #[v] w (AllPost S w A) := by
  obtain ⟨b, g1, c1, g2, c2, g3, c3, rfl, h, hTx⟩ := h
  clear hTx
  obtain ⟨i0, hi, hz0, hz1, hz2⟩ := info_parts Tryz.info35
  have n4 := hA.n4
  have hlt := hA.lt
  have f2 := h.f2
  rw [hlt] at f2
  have HP := Lib.hid (fun w1 (hb : Below w.heap.size w w1) => h.below hb)
  have HA := Lib.hid hA
  have HS := Lib.hid hS
  have HLT := Lib.hid hlt
  clear h hlt hA hS
  go_enter Tryz.func36, Tryz.ntmps36
  go_wp2_with fail
  go_loopw [3, 4, 5, 11] (fun x _ _ i wr => ∃ k : Nat, k ≤ A.gens.length ∧ i = .int .i64 k ∧ Hid (wr.ownsRow w.heap.size 35 1 x (allTo A k).length (ints (allTo A k))) ∧ Below w.heap.size w wr) (fun _ _ _ i _ => A.gens.length - (intOf i).toNat)
  case atStart => exact ⟨0, Nat.zero_le _, rfl, Lib.hid (World.ownsRow_nil _ _ _ _), Below.refl _ _⟩
  case round =>
    obtain ⟨k, hk, rfl, HX, hb⟩ := hrel
    by_cases hlt : k < A.gens.length
    · have q := (HP.out wr hb).own.t.cellAt k (by have := HLT.out; omega)
      rw [bools_at (by have := HLT.out; omega)] at q
      have z0 : (0 : Int) ≤ (k : Int) := by omega
      have z1 : (k : Int) < (A.gens.length : Int) := by omega
      cases ht : A.taken.getD k false with
      | true =>
        rw [ht] at q
        have HC := Lib.hid (khandle B A T HA.out wr b g1 c1 g2 c2 g3 c3 (HP.out wr hb) k hlt (HA.out.gt k hlt ht))
        have HE := Lib.hid (allTo_yes ht)
        have hn4 := allTo_len A k
        have hsz := hb.size
        clear ht
        go_wp2_with fail
        refine HC.out.mono ?_
        rintro e w1 ⟨rfl, nd, rfl⟩
        have hX1 := own_drewN HX.out nd
        have hb1 : Below w.heap.size w (wr.drewN nd) := below_drewN hb nd
        have hsz1 : w.heap.size ≤ (wr.drewN nd).heap.size := hb1.size
        have HX1 := Lib.hid hX1
        clear hX1
        generalize wr.drewN nd = W at *
        go_wp2_with (at_builtin; refine wpList_append_own _ rfl _ _ 85 rfl w.heap.size 35 i0 (.int .i64 0) 1 8 Tryz.underlying85 hi hz0 hz1 hz2 rfl (by decide) _ _ _ rfl (HX1.out.alloc _) ⟨W.heap.size, 0, none⟩ 1 1 [.int .i64 (A.hd k)] rfl rfl ?a1 ?a2 ?a3 ?a4 ?a5 ?_)
        case a1 => exact news_one W _ _
        case a2 => intro u hu; simp at hu; subst hu; rfl
        case a3 => unfold maxLen; omega
        case a4 => omega
        case a5 => simp; omega
        intro v' w2 hown2 hgrow2 _
        have HG := Lib.hid hgrow2
        have HO := Lib.hid (show w2.ownsRow w.heap.size 35 1 v' (allTo A (k + 1)).length (ints (allTo A (k + 1))) by
          rw [HE.out, ← ints_snoc, List.length_append]; exact hown2)
        have hX := HX1.out
        have HB2 : Below w.heap.size w w2 := (below_alloc hb1 _).grown hgrow2 (by simp; omega) (fun g e => (hX.lt g e).1)
        clear hown2 hgrow2 hX
        go_wp2_with fail
        go_roundw
        case rel => exact ⟨k + 1, by omega, by go_num, HO, HB2⟩
        case measure => simp [intOf]; omega
      | false =>
        rw [ht] at q
        have HE := Lib.hid (allTo_no ht)
        clear ht
        go_wp2_with fail
        go_roundw
        case rel => exact ⟨k + 1, by omega, by go_num, by rw [HE.out]; exact HX, hb⟩
        case measure => simp [intOf]; omega
    · have hk' : k = A.gens.length := by omega
      have HE := Lib.hid (show allTo A k = A.all by rw [hk']; rfl)
      have hn4 := allTo_len A k
      clear hk'
      go_wp2_with fail
      go_ret
      have ho := HX.out
      rw [HE.out] at ho hn4
      exact ⟨_, rfl, Lst.of_own ho (ints_len _) (by omega) (fun x h _ c => by have := HS.out x c; omega), hb⟩
/-- What Slots answers. -/
def SlotsPost (S : Nat → Prop) (w : World) (A : Tab) (e : Ending) (w' : World) : Prop :=
  ∃ gs ts, e = .returned (.tuple #[gs, ts]) ∧ Lst S w' gs (ints A.gens) ∧ Lst S w' ts (bools A.taken) ∧ Below w.heap.size w w'
theorem slotsPost_mk {S : Nat → Prop} {w w' : World} {A : Tab} (hA : A.Good) (hS : ∀ x, S x → x < w.heap.size) {B g1 c1 g2 c2 : Nat} (hB : w.heap.size ≤ B)
    (h1 : w'.ownsRow B 3 1 (.slice (some ⟨g1, 0, none⟩) A.gens.length c1) A.gens.length (ints A.gens)) (h2 : w'.ownsRow B 4 1 (.slice (some ⟨g2, 0, none⟩) A.gens.length c2) A.gens.length (bools A.taken)) (hb : Below w.heap.size w w') :
    SlotsPost S w A (.returned (.tuple #[.slice (some ⟨g1, 0, none⟩) A.gens.length c1, .slice (some ⟨g2, 0, none⟩) A.gens.length c2])) w' := by
  have n4 := hA.n4
  exact ⟨_, _, rfl, Lst.of_own h1 (ints_len _) (by omega) (fun x h _ k => by have := hS x k; omega), Lst.of_own h2 (by rw [bools_len, hA.lt]) (by omega) (fun x h _ k => by have := hS x k; omega), hb⟩

set_option maxHeartbeats 2000000 in
set_option maxRecDepth 100000 in
theorem kslots (S R : Nat → Prop) (B : Nat) (A : Tab) (hA : A.Good) (T : Nat → Tk) (w : World) (v : Value) (h : PKTab R B w A T v) (hS : ∀ x, S x → x < w.heap.size) :
    Calls Tryz.prog 65 #[v] w (SlotsPost S w A) := by
  obtain ⟨b, g1, c1, g2, c2, g3, c3, rfl, h, hTx⟩ := h
  clear hTx
  have n1 := hA.n1
  have n4 := hA.n4
  have hlt := hA.lt
  have HP := Lib.hid (fun w1 (hb : Below w.heap.size w w1) => h.below hb)
  have HK := Lib.hid (show ∀ W, Below w.heap.size w W → (W.cell? ⟨b, 1, none⟩ = some (.slice (some ⟨g1, 0, none⟩) A.gens.length c1) ∧ W.cell? ⟨b, 2, none⟩ = some (.slice (some ⟨g2, 0, none⟩) A.gens.length c2) ∧ Below w.heap.size w W) from
    fun W hb => ⟨(HP.out W hb).f1, by rw [← hlt]; exact (HP.out W hb).f2, hb⟩)
  have HC1 := Lib.hid (fun W (hb : Below w.heap.size w W) => clone_ints W g1 0 A.gens.length c1 A.gens rfl (by omega) (by omega) (own_cells (HP.out W hb).own.g))
  have HC2 := Lib.hid (fun W (hb : Below w.heap.size w W) => clone_bools W g2 0 A.gens.length c2 A.taken hlt (by omega) (by omega) (own_cells (HP.out W hb).own.t))
  have HA := Lib.hid hA
  have HS := Lib.hid hS
  clear h hlt hA hS
  go_enter Tryz.func65, Tryz.ntmps65
  go_wp2_with fail
  go_region_held3 (fun w' => w'.cell? ⟨b, 1, none⟩ = some (.slice (some ⟨g1, 0, none⟩) A.gens.length c1) ∧ w'.cell? ⟨b, 2, none⟩ = some (.slice (some ⟨g2, 0, none⟩) A.gens.length c2) ∧ Below w.heap.size w w')
    (first | exact HK.out _ below_drewOne | exact HK.out _ (Below.refl _ _) | (go_split_ands; refine HK.out _ (bnext ?_ hb); first | assumption | exact below_drewOne))
    (first
      | (go_at_call 92; refine (HC1.out _ ?_).mono ?_; (go_split_ands; assumption); rintro e w1 ⟨p1, d1, rfl, ho1, hb⟩; have hb1 := hb)
      | (go_at_call 93; refine (HC2.out _ ?_).mono ?_; (go_split_ands; assumption); rintro e w2 ⟨p2, d2, rfl, ho2, hb⟩; have hb2 := hb))
  all_goals
    go_wp2_with fail
    go_ret2
  have k1 := hb1.size
  have k2 : Below w.heap.size w w1 := by first | exact hb1 | exact below_drewOne.trans hb1
  exact slotsPost_mk HA.out HS.out (B := w.heap.size) (Nat.le_refl _) (own_base (own_below ho1 hb2) (by first | exact Nat.le_refl _ | (simp; done))) (own_base ho2 k2.size) (bnext k2 hb2)

end Go.Proofs.YthbkinopgialmaaGreatDoor
/- The program's Load of a table of tasks: refused where the document refuses, else the table of the slots and tasks; no condition but those that each row names. -/
namespace Go.Proofs.YthbkinopgialmaaGreatDoor
open Go.RowKit Tsk

/-- copy over the whole of a row of the call's own. -/
theorem wpList_copy_row {P : Program} {w : World} {ops : Array Oper} {rest : List Oper} {o : Oper} {a : Act} {Q : Exit → Act → World → Prop} (hgd : o.guard = none) (d s : Operand) (dT sT : TypeId)
    (ho : o.op = .call { callee := .builtin .copy, args := #[d, s], argTypes := #[dT, sT] }) (elem : TypeId) (hu : P.underlying dT = some (.slice elem)) (hsz : (P.info? elem).map (·.size) = some 1)
    (B g n cap : Nat) (xs : List Value) (hown : w.ownsRow B elem 1 (.slice (some ⟨g, 0, none⟩) n cap) n xs) (ad : Addr) (sCap : Nat) (hd : a.eval d = .slice (some ⟨g, 0, none⟩) n cap) (hs : a.eval s = .slice (some ad) n sCap)
    (cs : List Value) (hn : cs.length = n) (hsrc : ∀ j v, cs[j]? = some v → w.cell? (ad.add j) = some v) (h1 : ∀ v ∈ cs, v.oneCell' = true)
    (h : ∀ w', w'.ownsRow B elem 1 (.slice (some ⟨g, 0, none⟩) n cap) n cs → Keeps (fun x => x = g) w w' → wpList P ops Q rest (a.put o.dst (goInt n)) w') : wpList P ops Q (o :: rest) a w := by
  rcases hown.2 with ⟨e, _⟩ | ⟨g', cap', cur, e, hb, hg, hnc, hcm, hcs, htake⟩
  · simp at e
  · simp only [Value.slice.injEq, Option.some.injEq, Addr.mk.injEq, and_true, true_and] at e
    obtain ⟨rfl, rfl⟩ := e
    refine wpList_copy_own hgd d s dT sT ho elem hu hsz g 0 n cap ad n sCap hd hs cur elem hg cs (by rw [hn]; exact (Nat.min_self n).symm) hsrc (by omega) h1 ?_
    rw [hn]
    refine h _ ⟨by omega, .inr ⟨g, cap, _, rfl, hb, setRow_heap w g cur _ elem (0, 0) hg, hnc, hcm, ?_, ?_⟩⟩ ⟨rfl, rfl, rfl, by simp [World.setRow], fun b _ hne => setRow_other w g b _ hne⟩
    · simp; omega
    · simp [hn]

theorem below_set8 {B g : Nat} {w W : World} (h : Below B w W) (hg : B ≤ g) (i : Nat) (v0 v1 v2 v3 v4 v5 v6 v7 : Value) : Below B w ((((((((W.setCell ⟨g, i * 8, none⟩ v0).setCell ⟨g, i * 8 + 1, none⟩ v1).setCell ⟨g, i * 8 + 2, none⟩ v2).setCell ⟨g, i * 8 + 3, none⟩ v3).setCell ⟨g, i * 8 + 4, none⟩ v4).setCell ⟨g, i * 8 + 5, none⟩ v5).setCell ⟨g, i * 8 + 6, none⟩ v6).setCell ⟨g, i * 8 + 7, none⟩ v7) :=
  below_low (below_low (below_low (below_low (below_low (below_low (below_low (below_low h _ _ hg) _ _ hg) _ _ hg) _ _ hg) _ _ hg) _ _ hg) _ _ hg) _ _ hg
set_option maxHeartbeats 1000000 in
set_option maxRecDepth 100000 in
theorem kload_no1 (S : Nat → Prop) (kind : Int) (gens : List Int) (v x y : Value) (w : World) (hv : Lst S w v (ints gens)) (h : ¬ (1 ≤ kind ∧ kind ≤ 3 ∧ 1 ≤ gens.length ∧ gens.length ≤ 4096)) :
    Calls Tryz.prog 35 #[.int .i64 kind, v, x, y] w fun e w' => e = .returned (.tuple #[.pointer none, .iface 94 (.int .i64 1)]) ∧ w = w' := by
  obtain ⟨p, cp, rfl, hm, hg⟩ := hv
  have e1 := ints_len gens
  rw [e1] at hm ⊢
  have HN := Lib.hid (fun w => knew_no kind gens.length w (by omega))
  clear h hg e1
  go_enter Tryz.func35, Tryz.ntmps35
  go_wp2_with fail
  refine (HN.out _).mono ?_
  rintro e w1 ⟨rfl, rfl⟩
  go_wp2_with fail
  go_ret2
  exact ⟨rfl, rfl⟩

set_option maxHeartbeats 2000000 in
set_option maxRecDepth 100000 in
theorem kload_no2 (S : Nat → Prop) (kind : Int) (gens : List Int) (taken : List Bool) (m : Nat) (TT : Nat → Tk) (v x y : Value) (w : World) (hv : Lst S w v (ints gens)) (hx : Lst S w x (bools taken)) (hy : Tasks w y m TT)
    (h1 : 1 ≤ kind) (h3 : kind ≤ 3) (n1 : 1 ≤ gens.length) (n4 : gens.length ≤ 4096) (h : ¬ ((taken.length = gens.length ∧ standB gens taken gens.length) ∧ m = rank taken taken.length)) :
    Calls Tryz.prog 35 #[.int .i64 kind, v, x, y] w fun e w' => e = .returned (.tuple #[.pointer none, .iface 94 (.int .i64 270)]) ∧ Below w.heap.size w w' := by
  have HN := Lib.hid (fun w => knew_ok kind gens.length w h1 h3 n1 n4)
  have HSN := Lib.hid (fun W (hb : Below w.heap.size w W) => stand_no S gens taken v x W (hv.below hb) (hx.below hb))
  have HSY := Lib.hid (fun W (hb : Below w.heap.size w W) => stand_yes S gens taken v x W (hv.below hb) (hx.below hb))
  have HC := Lib.hid (fun W (hb : Below w.heap.size w W) => count_any S taken x W (hx.below hb))
  obtain ⟨p, cp, rfl, hm, hg⟩ := hv
  obtain ⟨q, cq, rfl, hm2, ht⟩ := hx
  obtain ⟨r, cr, rfl, hm3, hy⟩ := hy
  have e1 := ints_len gens
  have e2 := bools_len taken
  rw [e1] at hm HSN HSY ⊢
  rw [e2] at hm2 HSN HSY HC ⊢
  clear hg ht hy e1 e2
  by_cases hs : taken.length = gens.length ∧ standB gens taken gens.length
  · have hne : ¬ (m = rank taken taken.length) := fun k => h ⟨hs, k⟩
    have hb1 : decide (m = rank taken taken.length) = false := decide_eq_false hne
    have HS := Lib.hid hs
    have hrk := rank_le taken taken.length
    clear h hs
    generalize rank taken taken.length = rk at *
    go_enter Tryz.func35, Tryz.ntmps35
    go_wp2_with fail
    refine (HN.out _).mono ?_
    rintro e w1 ⟨ST, vt, rfl, hpt, hb⟩
    clear hpt
    go_wp2_with fail
    refine (HSY.out _ hb HS.out.1 HS.out.2).mono ?_
    rintro e w2 ⟨rfl, rfl⟩
    go_wp2_with fail
    refine (HC.out _ hb).mono ?_
    rintro e w2 ⟨rfl, rfl⟩
    go_wp2_with fail
    go_ret2
    exact ⟨rfl, hb⟩
  · have HS := Lib.hid hs
    clear h hs
    go_enter Tryz.func35, Tryz.ntmps35
    go_wp2_with fail
    refine (HN.out _).mono ?_
    rintro e w1 ⟨ST, vt, rfl, hpt, hb⟩
    clear hpt
    go_wp2_with fail
    refine (HSN.out _ hb HS.out).mono ?_
    rintro e w2 ⟨rfl, rfl⟩
    go_wp2_with fail
    go_ret2
    exact ⟨rfl, hb⟩

theorem own_of_keeps {S : Nat → Prop} {B : Nat} {w w' : World} {A : Tab} {T : Nat → Tk} {b g1 c1 g2 c2 g3 c3 : Nat} (h : PK B w A T b g1 c1 g2 c2 g3 c3) (hk : Keeps S w w') (h0 : ¬ S b) : w'.cell? ⟨b, 0, none⟩ = w.cell? ⟨b, 0, none⟩ ∧ w'.cell? ⟨b, 1, none⟩ = w.cell? ⟨b, 1, none⟩ ∧ w'.cell? ⟨b, 2, none⟩ = w.cell? ⟨b, 2, none⟩ ∧ w'.cell? ⟨b, 3, none⟩ = w.cell? ⟨b, 3, none⟩ :=
  have lb := h.lts.1
  ⟨hk.cell (p := ⟨b, 0, none⟩) lb h0, hk.cell (p := ⟨b, 1, none⟩) lb h0, hk.cell (p := ⟨b, 2, none⟩) lb h0, hk.cell (p := ⟨b, 3, none⟩) lb h0⟩
theorem PK.copyG {B : Nat} {w w' : World} {A : Tab} {T : Nat → Tk} {b g1 c1 g2 c2 g3 c3 : Nat} (h : PK B w A T b g1 c1 g2 c2 g3 c3) (l : List Int) (hl : l.length = A.gens.length) (ho : w'.ownsRow B 3 1 (.slice (some ⟨g1, 0, none⟩) A.gens.length c1) A.gens.length (ints l)) (hk : Keeps (fun x => x = g1) w w') :
    PK B w' { A with gens := l } T b g1 c1 g2 c2 g3 c3 := by
  obtain ⟨e0, e1, e2, e3⟩ := own_of_keeps h hk h.n1
  refine ⟨e0.trans h.f0, e1.trans (by simp only [hl]; exact h.f1), e2.trans h.f2, e3.trans (by simp only [hl]; exact h.f3), ⟨by simp only [hl]; exact ho, own_keeps h.own.t hk (fun g e => by simp [Value.ownBlock] at e; subst e; exact fun e => h.own.n12 e.symm), by simp only [hl]; exact own_keeps h.own.l hk (fun g e => by simp [Value.ownBlock] at e; subst e; exact fun e => h.own.n13 e.symm), h.own.n12, h.own.n13, h.own.n23⟩, h.hb, h.n1, h.n2, h.n3⟩
theorem PK.copyT {B : Nat} {w w' : World} {A : Tab} {T : Nat → Tk} {b g1 c1 g2 c2 g3 c3 : Nat} (h : PK B w A T b g1 c1 g2 c2 g3 c3) (l : List Bool) (hl : l.length = A.taken.length) (ho : w'.ownsRow B 4 1 (.slice (some ⟨g2, 0, none⟩) A.taken.length c2) A.taken.length (bools l)) (hk : Keeps (fun x => x = g2) w w') :
    PK B w' { A with taken := l } T b g1 c1 g2 c2 g3 c3 := by
  obtain ⟨e0, e1, e2, e3⟩ := own_of_keeps h hk h.n2
  refine ⟨e0.trans h.f0, e1.trans h.f1, e2.trans (by simp only [hl]; exact h.f2), e3.trans h.f3, ⟨own_keeps h.own.g hk (fun g e => by simp [Value.ownBlock] at e; subst e; exact h.own.n12), by simp only [hl]; exact ho, own_keeps h.own.l hk (fun g e => by simp [Value.ownBlock] at e; subst e; exact fun e => h.own.n23 e.symm), h.own.n12, h.own.n13, h.own.n23⟩, h.hb, h.n1, h.n2, h.n3⟩

/-- The tasks while they are laid. -/
def fillT (taken : List Bool) (TT : Nat → Tk) (k : Nat) : Nat → Tk := fun i => if i < k ∧ taken.getD i false = true then TT (rank taken i) else tk0
theorem fillT_0 (taken : List Bool) (TT : Nat → Tk) : fillT taken TT 0 = fun _ => tk0 := by
  funext i; unfold fillT; rw [if_neg (by omega)]
theorem fillT_no {taken : List Bool} {TT : Nat → Tk} {k : Nat} (h : taken.getD k false = false) : fillT taken TT (k + 1) = fillT taken TT k := by
  funext i
  unfold fillT
  by_cases e : i = k
  · subst e
    rw [if_neg (fun c => by rw [h] at c; cases c.2), if_neg (fun c => by omega)]
  · have : (i < k + 1) = (i < k) := propext ⟨fun h => by omega, fun h => by omega⟩
    simp only [this]
theorem fillT_yes {taken : List Bool} {TT : Nat → Tk} {k : Nat} (h : taken.getD k false = true) : fillT taken TT (k + 1) = upd (fillT taken TT k) k (TT (rank taken k)) := by
  funext i
  unfold upd
  by_cases e : i = k
  · subst e
    rw [if_pos rfl]
    unfold fillT
    rw [if_pos ⟨by omega, h⟩]
  · rw [if_neg e]
    unfold fillT
    have : (i < k + 1) = (i < k) := propext ⟨fun h => by omega, fun h => by omega⟩
    simp only [this]
abbrev loadTo (kind : Int) (gens : List Int) (taken : List Bool) (L : List Int) : Tab := ⟨kind, gens, taken, L⟩

set_option maxHeartbeats 4000000 in
set_option maxRecDepth 100000 in
theorem kload_ok (S : Nat → Prop) (kind : Int) (gens : List Int) (taken : List Bool) (m : Nat) (TT : Nat → Tk) (L : List Int) (v x y : Value) (w : World) (hv : Lst S w v (ints gens)) (hx : Lst S w x (bools taken)) (hy : Tasks w y m TT)
    (h1 : 1 ≤ kind) (h3 : kind ≤ 3) (n1 : 1 ≤ gens.length) (n4 : gens.length ≤ 4096) (hlt : taken.length = gens.length) (ho : standB gens taken gens.length) (hr : m = rank taken taken.length) :
    Calls Tryz.prog 35 #[.int .i64 kind, v, x, y] w fun e w' => ∃ S v, e = .returned (.tuple #[v, .nilIface]) ∧ PKTab S w.heap.size w' (loadTo kind gens taken L) (fillT taken TT gens.length) v ∧ Below w.heap.size w w' := by
  have HN := Lib.hid (fun w => knew_ok kind gens.length w h1 h3 n1 n4)
  have HSY := Lib.hid (fun W (hb : Below w.heap.size w W) => stand_yes S gens taken v x W (hv.below hb) (hx.below hb) hlt ho)
  have HC := Lib.hid (fun W (hb : Below w.heap.size w W) => count_any S taken x W (hx.below hb))
  obtain ⟨p, cp, rfl, hm, hg⟩ := hv
  obtain ⟨q, cq, rfl, hm2, ht⟩ := hx
  have HYJ := Lib.hid hy
  obtain ⟨r, cr, rfl, hm3, hy⟩ := hy
  have e1 := ints_len gens
  have e2 := bools_len taken
  rw [e1] at hm HSY ⊢
  rw [e2] at hm2 HSY HC ⊢
  obtain ⟨b1, o1, rfl, _, hd1⟩ := hg 0 _ (ints_at (by omega))
  obtain ⟨b2, o2, rfl, _, hd2⟩ := ht 0 _ (bools_at (by omega))
  have k1 := cell_lt hd1
  have k2 := cell_lt hd2
  simp only at k1 k2
  have HG := Lib.hid (show ∀ j u, (ints gens)[j]? = some u → w.cell? ⟨b1, o1 + j, none⟩ = some u from fun j u hu => by
    obtain ⟨b, off, e, _, hc⟩ := hg j u hu
    injection e with e
    injection e with e1 e2
    subst e1 e2; exact hc)
  have HT := Lib.hid (show ∀ j u, (bools taken)[j]? = some u → w.cell? ⟨b2, o2 + j, none⟩ = some u from fun j u hu => by
    obtain ⟨b, off, e, _, hc⟩ := ht j u hu
    injection e with e
    injection e with e1 e2
    subst e1 e2; exact hc)
  have HY := Lib.hid hy
  have HR := Lib.hid hr
  have E1 := Lib.hid e1
  have E2 := Lib.hid e2
  have HLT := Lib.hid hlt
  rw [← hr] at HC
  rw [hlt] at HSY HC ⊢
  clear hg ht hy hr ho e1 e2 hlt hd1 hd2 hm2
  go_enter Tryz.func35, Tryz.ntmps35
  go_wp2_with fail
  refine (HN.out _).mono ?_
  rintro e w1 ⟨ST, vt, rfl, ⟨b, g1, c1, g2, c2, g3, c3, rfl, hpt, hST⟩, hb⟩
  clear hST
  have f1 := hpt.f1
  have f2 := hpt.f2
  rw [show (Tab.new kind gens.length).gens.length = gens.length by simp [Tab.new]] at f1
  rw [show (Tab.new kind gens.length).taken.length = gens.length by simp [Tab.new]] at f2
  have hog := hpt.own.g
  rw [show (Tab.new kind gens.length).gens.length = gens.length by simp [Tab.new]] at hog
  have HOG := Lib.hid hog
  have HPT := Lib.hid hpt
  clear hpt hog
  go_wp2_with fail
  refine (HSY.out _ hb).mono ?_
  rintro e w2 ⟨rfl, rfl⟩
  go_wp2_with fail
  refine (HC.out _ hb).mono ?_
  rintro e w2 ⟨rfl, rfl⟩
  go_wp2_with (with_reducible refine wpList_copy_row rfl (.tmp 39) (.tmp 40) 25 25 rfl 3 Tryz.underlying25 Tryz.size3 w.heap.size g1 gens.length c1 _ HOG.out ⟨b1, o1, none⟩ cp rfl rfl (ints gens) E1.out ?a1 ints_one ?_)
  case a1 =>
    intro j u hu
    rw [addr_plus]
    exact (hb.cell (p := ⟨b1, o1 + j, none⟩) k1).trans (HG.out j u hu)
  intro w2 ho2 hk2
  have hl1 := (HPT.out.lts.2.1).1
  have hl2 := (HPT.out.lts.2.2.1).1
  have hb2 : Below w.heap.size w w2 := below_keeps hb hk2 (fun x e => by omega)
  have hpt2 := HPT.out.copyG gens (by simp [Tab.new]) (by rw [show (Tab.new kind gens.length).gens.length = gens.length by simp [Tab.new]]; exact ho2) hk2
  have HPT2 := Lib.hid hpt2
  have g2' := hpt2.f2
  simp only at g2'
  rw [show (Tab.new kind gens.length).taken.length = gens.length by simp [Tab.new]] at g2'
  have hot := hpt2.own.t
  simp only at hot
  rw [show (Tab.new kind gens.length).taken.length = gens.length by simp [Tab.new]] at hot
  have HOT := Lib.hid hot
  clear ho2 hk2 hpt2 hot f1 f2
  have E2' := Lib.hid (E2.out.trans HLT.out)
  go_wp2_with (with_reducible refine wpList_copy_row rfl (.tmp 45) (.tmp 46) 26 26 rfl 4 Tryz.underlying26 Tryz.size4 w.heap.size g2 gens.length c2 _ HOT.out ⟨b2, o2, none⟩ cq rfl rfl (bools taken) E2'.out ?a2 bools_one ?_)
  case a2 =>
    intro j u hu
    rw [addr_plus]
    exact (hb2.cell (p := ⟨b2, o2 + j, none⟩) k2).trans (HT.out j u hu)
  intro w3 ho3 hk3
  have hb3 : Below w.heap.size w w3 := below_keeps hb2 hk3 (fun x e => by omega)
  have hpt3 := HPT2.out.copyT taken (by simp [Tab.new, HLT.out]) (by simp only; rw [show (Tab.new kind gens.length).taken.length = gens.length by simp [Tab.new]]; exact ho3) hk3
  have HPT3 := Lib.hid (show PK w.heap.size w3 (loadTo kind gens taken L) (fillT taken TT 0) b g1 c1 g2 c2 g3 c3 by rw [fillT_0]; exact ⟨hpt3.f0, hpt3.f1, hpt3.f2, by have := hpt3.f3; simpa using this, ⟨hpt3.own.g, hpt3.own.t, by have := hpt3.own.l; simpa using this, hpt3.own.n12, hpt3.own.n13, hpt3.own.n23⟩, hpt3.hb, hpt3.n1, hpt3.n2, hpt3.n3⟩)
  have f3 := HPT3.out.f3
  clear ho3 hk3 hpt3 g2' hb hb2
  go_wp2_with fail
  go_loopw [12, 13, 53] (fun gv _ i wr => ∃ k : Nat, k ≤ gens.length ∧ i = .int .i64 k ∧ gv = .int .i64 (rank taken k : Nat) ∧ Hid (PK w.heap.size wr (loadTo kind gens taken L) (fillT taken TT k) b g1 c1 g2 c2 g3 c3) ∧ Below w.heap.size w wr) (fun _ _ i _ => gens.length - (intOf i).toNat)
  case atStart => exact ⟨0, Nat.zero_le _, rfl, rfl, HPT3, hb3⟩
  case round =>
    obtain ⟨k, hk, rfl, rfl, HK, hbk⟩ := hrel
    by_cases hlt : k < gens.length
    · have q : wr.cell? ⟨b2, o2 + k, none⟩ = some (.bool (taken.getD k false)) := (hbk.cell (p := ⟨b2, o2 + k, none⟩) k2).trans (HT.out k _ (bools_at (by have := HLT.out; omega)))
      have z0 : (0 : Int) ≤ (k : Int) := by omega
      have z1 : (k : Int) < (gens.length : Int) := by omega
      have hrk := rank_le taken k
      cases htk : taken.getD k false with
      | true =>
        rw [htk] at q
        have hs := rank_succ taken k
        rw [if_pos htk] at hs
        have hmono := rank_mono taken (i := k + 1) (j := taken.length) (by have := HLT.out; omega)
        have hrl : rank taken k < m := by have := HR.out; omega
        obtain ⟨b3, o3, rfl, d0, d1, d2, d3, d4, d5, d6, d7, hJ⟩ := HY.out (rank taken k) hrl
        obtain ⟨s1, cp1, hs1, _⟩ := hJ
        rw [hs1] at d1
        have hb3l : b3 < w.heap.size := cell_lt d0
        have kl := fun o => hbk.cell (p := ⟨b3, o, none⟩) hb3l
        have x0 := (kl _).trans d0
        have x1 := (kl _).trans d1
        have x2 := (kl _).trans d2
        have x3 := (kl _).trans d3
        have x4 := (kl _).trans d4
        have x5 := (kl _).trans d5
        have x6 := (kl _).trans d6
        have x7 := (kl _).trans d7
        have f3' := HK.out.f3
        obtain ⟨q0, q1, q2, q3, q4, q5, q6, q7, q8⟩ := HK.out.cells hlt
        have z2 : (0 : Int) ≤ ((rank taken k : Nat) : Int) := by omega
        have z3 : ((rank taken k : Nat) : Int) < (m : Int) := by omega
        have HF := Lib.hid (fillT_yes (TT := TT) htk)
        have HSS := Lib.hid hs
        obtain ⟨t, hti⟩ : ∃ t, t = TT (rank taken k) := ⟨_, rfl⟩
        rw [← hti] at x0 x1 x2 x3 x4 x5 x6 x7 hs1
        have HTI := Lib.hid hti
        clear hs htk hmono f3 hti d0 d1 d2 d3 d4 d5 d6 d7 kl
        obtain ⟨tp, ts, tn, tf, ⟨kg, ko, kn, kd, kc, kt⟩⟩ := t
        dsimp only at x0 x1 x2 x3 x4 x5 x6 x7 hs1
        subst hs1
        generalize (fillT taken TT k k).p = y0 at *
        generalize (fillT taken TT k k).s = y1 at *
        generalize (fillT taken TT k k).k.g = y2 at *
        generalize (fillT taken TT k k).k.o = y3 at *
        generalize (fillT taken TT k k).k.n = y4 at *
        generalize (fillT taken TT k k).k.d = y5 at *
        generalize (fillT taken TT k k).k.c = y6 at *
        generalize (fillT taken TT k k).k.t = y7 at *
        generalize hrn : rank taken k = rn at *
        have HRN := Lib.hid hrn
        clear hrn
        go_upto_region 13 with fail
        go_cut [] (fun wx => Hid (PK w.heap.size wx (loadTo kind gens taken L) (fillT taken TT (k + 1)) b g1 c1 g2 c2 g3 c3) ∧ Below w.heap.size w wx)
        case first =>
          go_still_tail 10, (by kernel_rfl)
          change wpList _ _ _ _ _ wr.drew
          go_wp2_with fail
          go_meet
          refine ⟨Lib.hid ?_, ?_⟩
          · rw [HF.out, ← HTI.out]
            exact (HK.out.task k ⟨tp, .slice s1 tn cp1, tn, tf, ⟨kg, ko, kn, kd, kc, kt⟩⟩ L).drew
          · have hg3 := (HK.out.lts.2.2.2).1
            exact below_drew (below_set8 hbk hg3 _ _ _ _ _ _ _ _ _)
        case rest =>
          obtain ⟨K1, K2⟩ := hcut
          clear q q0 q1 q2 q3 q4 q5 q6 q7 q8 f3' hbk x0 x1 x2 x3 x4 x5 x6 x7
          go_wp2_with fail
          go_roundw
          case rel => exact ⟨k + 1, by omega, by go_num, by rw [HSS.out]; go_num, K1, K2⟩
          case measure => simp [intOf]; omega
      | false =>
        rw [htk] at q
        have hs := rank_succ taken k
        rw [if_neg (by rw [htk]; simp)] at hs
        have HF := Lib.hid (fillT_no (TT := TT) htk)
        have HSS := Lib.hid hs
        clear htk hs f3
        go_wp2_with fail
        go_roundw
        case rel => exact ⟨k + 1, by omega, by go_num, by rw [HSS.out]; rfl, Lib.hid (by rw [HF.out]; exact HK.out), hbk⟩
        case measure => simp [intOf]; omega
    · have hk' : k = gens.length := by omega
      have HE := Lib.hid hk'
      clear hk'
      go_wp2_with fail
      go_ret2
      exact ⟨_, _, rfl, ⟨b, g1, c1, g2, c2, g3, c3, rfl, by rw [← HE.out]; exact HK.out, rfl⟩, hbk⟩
end Go.Proofs.YthbkinopgialmaaGreatDoor
/- The program's leaf as it lies in memory: one cell, a table of tasks, the tasks' jobs; what stays where others turn; nothing of the program is walked; no condition. -/
namespace Go.Proofs.YthbkinopgialmaaGreatDoor
open Go.RowKit Tsk

/-- A slice of jobs that lies in none of the blocks X. -/
def JobsX (X : Nat → Prop) (w : World) (v : Value) (n : Nat) (f : Nat → Jb) : Prop := Jobs w v n f ∧ ∀ a m c, v = .slice (some a) m c → 0 < n → ¬ X a.block
theorem JobsX.keeps {X R : Nat → Prop} {w w' : World} {v : Value} {n : Nat} {f : Nat → Jb} (h : JobsX X w v n f) (hk : Keeps R w w') (hR : ∀ x, R x → X x) : JobsX X w' v n f := by
  refine ⟨?_, h.2⟩
  obtain ⟨⟨p, cap, e, hm, hc⟩, hx⟩ := h
  refine ⟨p, cap, e, hm, fun j hj => ?_⟩
  obtain ⟨b, off, e2, c0, c1, c2, c3⟩ := hc j hj
  have hl := cell_lt c0
  have hn : ¬ R b := fun r => hx ⟨b, off, none⟩ n cap (by rw [e, e2]) (by omega) (hR b r)
  have k := fun (o : Nat) => hk.cell (p := ⟨b, o, none⟩) hl hn
  exact ⟨b, off, e2, (k _).trans c0, (k _).trans c1, (k _).trans c2, (k _).trans c3⟩
theorem JobsX.below {X : Nat → Prop} {w w' : World} {v : Value} {n : Nat} {f : Nat → Jb} (h : JobsX X w v n f) (hb : Below w.heap.size w w') : JobsX X w' v n f := ⟨h.1.below hb, h.2⟩
theorem JobsX.mono {X Y : Nat → Prop} {w : World} {v : Value} {n : Nat} {f : Nat → Jb} (h : JobsX X w v n f) (hy : ∀ x, x < w.heap.size → Y x → X x) : JobsX Y w v n f :=
  ⟨h.1, fun a m c e hn k => h.2 a m c e hn (hy _ (h.1.lt a m c e (by
    obtain ⟨p, cap, e1, _⟩ := h.1
    rw [e] at e1
    cases e1
    exact hn)) k)⟩
theorem JobsX.own {X : Nat → Prop} {B : Nat} {w : World} {v : Value} {n : Nat} {f : Nat → Jb} (h : JobsO B w v n f) (hn : n ≤ 9223372036854775807) (hX : ∀ x, X x → x < B) : JobsX X w v n f := by
  refine ⟨own_jobs h hn, fun a m c e h0 k => ?_⟩
  obtain ⟨g, cap, e2, _, hB, _⟩ := own_block2 h h0
  rw [e] at e2
  cases e2
  have := hX _ k
  simp only at this
  omega
theorem JobsX.nil (X : Nat → Prop) (w : World) (f : Nat → Jb) : JobsX X w (.slice none 0 0) 0 f := ⟨jobs_none _ _ _ _ _ rfl, fun _ _ _ _ h => absurd h (Nat.lt_irrefl _)⟩
theorem JobsX.congr {X : Nat → Prop} {w : World} {v : Value} {n : Nat} {f g : Nat → Jb} (h : JobsX X w v n f) (e : ∀ j, j < n → f j = g j) : JobsX X w v n g := ⟨h.1.congr e, h.2⟩

/-- The program's leaf in a world: its blocks S, its jobs in none of X. -/
def Lf (S X : Nat → Prop) (B : Nat) (w : World) (A : Tab) (T : Nat → Tk) (v : Value) : Prop :=
  ∃ (sl : Nat → Value) (bl : Nat) (ST : Nat → Prop) (tv : Value), v = .pointer (some ⟨bl, 0, none⟩) ∧ w.cell? ⟨bl, 0, none⟩ = some tv ∧ PKTab ST B w A (tm T sl) tv ∧ (B ≤ bl ∧ ¬ ST bl) ∧ (S = fun x => x = bl ∨ ST x) ∧ ∀ i, JobsX X w (sl i) (T i).n (T i).f
theorem Lf.lt {S X : Nat → Prop} {B : Nat} {w : World} {A : Tab} {T : Nat → Tk} {v : Value} (h : Lf S X B w A T v) : ∀ x, S x → B ≤ x ∧ x < w.heap.size := by
  obtain ⟨sl, bl, ST, tv, rfl, hc, ht, ⟨hb, _⟩, rfl, _⟩ := h
  rintro x (rfl | hx)
  · exact ⟨hb, cell_lt hc⟩
  · exact ht.lt x hx
theorem Lf.keeps {S X R : Nat → Prop} {B : Nat} {w w' : World} {A : Tab} {T : Nat → Tk} {v : Value} (h : Lf S X B w A T v) (hk : Keeps R w w') (hd : ∀ x, S x → ¬ R x) (hR : ∀ x, R x → X x) : Lf S X B w' A T v := by
  obtain ⟨sl, bl, ST, tv, rfl, hc, ht, hb, rfl, hj⟩ := h
  exact ⟨sl, bl, ST, tv, rfl, (hk.cell (p := ⟨bl, 0, none⟩) (cell_lt hc) (hd bl (.inl rfl))).trans hc, ht.keeps hk (fun x hx => hd x (.inr hx)), hb, rfl, fun i => (hj i).keeps hk hR⟩
theorem Lf.below {S X : Nat → Prop} {B : Nat} {w w' : World} {A : Tab} {T : Nat → Tk} {v : Value} (h : Lf S X B w A T v) (hb : Below w.heap.size w w') : Lf S X B w' A T v :=
  h.keeps (R := fun _ => False) (Keeps.of_below hb) (fun _ _ k => k) (fun _ k => k.elim)
theorem Lf.mono {S X Y : Nat → Prop} {B : Nat} {w : World} {A : Tab} {T : Nat → Tk} {v : Value} (h : Lf S X B w A T v) (hy : ∀ x, x < w.heap.size → Y x → X x) : Lf S Y B w A T v := by
  obtain ⟨sl, bl, ST, tv, rfl, hc, ht, hb, rfl, hj⟩ := h
  exact ⟨sl, bl, ST, tv, rfl, hc, ht, hb, rfl, fun i => (hj i).mono hy⟩
theorem tm_upd (T : Nat → Tk) (sl : Nat → Value) (i : Nat) (p : Int) (s : Value) (n : Nat) (f : Nat → Jb) (k : Ac) (s0 : Value) : tm (upd T i ⟨p, s0, n, f, k⟩) (upd sl i s) = upd (tm T sl) i ⟨p, s, n, f, k⟩ := by
  funext j
  unfold tm upd
  by_cases e : j = i
  · simp [e]
  · simp [e]
theorem isSl_tm {X : Nat → Prop} {w : World} {T : Nat → Tk} {sl : Nat → Value} (h : ∀ i, JobsX X w (sl i) (T i).n (T i).f) : IsSl (tm T sl) := fun i => by
  obtain ⟨p, cap, e, _⟩ := (h i).1
  exact ⟨p, cap, e⟩
theorem fs_tm (t : Nat → Bool) (T : Nat → Tk) (sl : Nat → Value) : ∀ m, fsS t (tm T sl) m = fsS t T m
  | 0 => rfl
  | m + 1 => by
    have h := fs_tm t T sl m
    show (if t m = true ∧ 0 < (T m).n ∧ (fsS t (tm T sl) m < 0 ∨ (T m).p < (T (fsS t (tm T sl) m).toNat).p) then ((m : Nat) : Int) else fsS t (tm T sl) m) = _
    rw [h]
    rfl
/-- The leaf behind a step of its table: another task at a slot. -/
theorem Lf.act {S X : Nat → Prop} {B : Nat} {w0 w w' : World} {A' : Tab} {T : Nat → Tk} {v : Value} {sl : Nat → Value} {bl : Nat} {ST : Nat → Prop} {tv : Value} (hv : v = .pointer (some ⟨bl, 0, none⟩)) (hc : w0.cell? ⟨bl, 0, none⟩ = some tv) (hb : B ≤ bl ∧ ¬ ST bl) (hS : S = fun x => x = bl ∨ ST x) (hj : ∀ i, JobsX X w0 (sl i) (T i).n (T i).f) (hX : ∀ x, S x → X x)
    (h0 : Below w0.heap.size w0 w) {i : Nat} {p : Int} {s : Value} {n : Nat} {f : Nat → Jb} {k : Ac} (s0 : Value) (ht : PKTab ST B w' A' (upd (tm T sl) i ⟨p, s, n, f, k⟩) tv) (hk : Keeps ST w w') (hn : JobsX X w s n f) :
    Lf S X B w' A' (upd T i ⟨p, s0, n, f, k⟩) v ∧ Keeps S w0 w' := by
  subst hS
  have hk2 : Keeps ST w0 w' := (Keeps.of_below h0).trans hk
  refine ⟨⟨upd sl i s, bl, ST, tv, hv, (hk2.cell (p := ⟨bl, 0, none⟩) (cell_lt hc) hb.2).trans hc, by rw [tm_upd]; exact ht, hb, rfl, fun j => ?_⟩, hk2.mono fun _ h => .inr h⟩
  by_cases e : j = i
  · subst e
    rw [upd_same, upd_same]
    exact hn.keeps hk (fun x hx => hX x (.inr hx))
  · rw [upd_ne _ e, upd_ne _ e]
    exact (hj j).keeps hk2 (fun x hx => hX x (.inr hx))
end Go.Proofs.YthbkinopgialmaaGreatDoor
/- The program's leaf: Add, Drop; no condition but those that each row names. -/
namespace Go.Proofs.YthbkinopgialmaaGreatDoor
open Go.RowKit Tsk

/-- What is answered of a leaf that has turned. -/
def LfPost (S X : Nat → Prop) (B : Nat) (w : World) (A' : Tab) (T' : Nat → Tk) (v r : Value) (e : Ending) (w' : World) : Prop := e = .returned r ∧ Lf S X B w' A' T' v ∧ Keeps S w w'
set_option maxHeartbeats 2000000 in
set_option maxRecDepth 100000 in
theorem ladd_no (w : World) (v : Value) (p : Int) (hp : ¬ (0 ≤ p ∧ p ≤ 31)) :
    Calls Tryz.prog 17 #[v, .int .i64 p] w fun e w' => e = .returned (.tuple #[.int .i64 0, errV 2]) ∧ Below w.heap.size w w' := by
  have HN := Lib.hid (fun W => pnew_no p W hp)
  clear hp
  go_enter Tryz.func17, Tryz.ntmps17
  go_wp2_with fail
  refine (HN.out _).mono ?_
  rintro e w1 ⟨rfl, hb1⟩
  rw [errV_ne (by decide)]
  have HB1 := Lib.hid hb1
  clear hb1
  go_wp2_with fail
  go_ret2
  exact ⟨rfl, HB1.out.alloc HB1.out.size _⟩
set_option maxHeartbeats 2000000 in
set_option maxRecDepth 100000 in
theorem ladd_none (S X : Nat → Prop) (B : Nat) (A : Tab) (T : Nat → Tk) (hg : LGood A T) (w : World) (v : Value) (h : Lf S X B w A T v) (p : Int) (hp : 0 ≤ p ∧ p ≤ 31) (hf : A.free = none) :
    Calls Tryz.prog 17 #[v, .int .i64 p] w fun e w' => e = .returned (.tuple #[.int .i64 0, errV 30]) ∧ Below w.heap.size w w' := by
  have HN := Lib.hid (fun W => pnew_ok p W hp)
  obtain ⟨sl, bl, ST, tv, rfl, hc, ht, hb, rfl, hj⟩ := h
  have HC := Lib.hid hc
  have HA := Lib.hid (fun W (hb : Below w.heap.size w W) => kadd_none ST B A hg.tab (tm T sl) W tv (ht.below hb) p (.slice none 0 0) kZ hf)
  obtain ⟨b, g1, c1, g2, c2, g3, c3, rfl, _⟩ := ht
  clear hj hg hf hc hp hb
  go_enter Tryz.func17, Tryz.ntmps17
  go_wp2_with fail
  refine (HN.out _).mono ?_
  rintro e w1 ⟨rfl, hb1⟩
  obtain ⟨W1, hW1⟩ : ∃ W1, W1 = w1.alloc (.cells #[.int .i64 p, .slice none 0 0, .int .i64 0, .int .i64 0, .int .i64 0, .int .i64 0, .int .i64 0, .int .i64 0] KT) := ⟨_, rfl⟩
  have HB1 := Lib.hid (show Below w.heap.size w W1 from by rw [hW1]; exact hb1.alloc hb1.size _)
  have HT1 := Lib.hid (show HasT W1 w1.heap.size p (.slice none 0 0) kZ from by rw [hW1]; exact hasT_new w1 p _ kZ)
  have HW := Lib.hid hW1
  clear hW1 hb1
  go_upto_region 4 with fail
  rw [← HW.out]
  obtain ⟨x0, x1, x2, x3, x4, x5, x6, x7⟩ := HT1.out.cells
  have hc1 := (HB1.out.cell (p := ⟨bl, 0, none⟩) (cell_lt HC.out)).trans HC.out
  go_region_law (go_simp; go_at_call 47; refine (HA.out _ HB1.out.drew).mono ?_; rintro e w2 ⟨rfl, hb2⟩; rw [errV_ne (by decide)])
  all_goals
    have HB2 := Lib.hid (bnext HB1.out.drew hb2)
    clear hb2
    go_wp2_with fail
    go_ret2
    exact ⟨rfl, HB2.out⟩
set_option maxHeartbeats 2000000 in
set_option maxRecDepth 100000 in
theorem ladd_some (S X : Nat → Prop) (B : Nat) (A : Tab) (T : Nat → Tk) (hg : LGood A T) (w : World) (v : Value) (h : Lf S X B w A T v) (hX : ∀ x, S x → X x) (p : Int) (hp : 0 ≤ p ∧ p ≤ 31) (i : Nat) (hf : A.free = some i) :
    Calls Tryz.prog 17 #[v, .int .i64 p] w (LfPost S X B w (A.addAt i 0) (upd T i (tkN p)) v (.tuple #[.int .i64 (A.hd i), .nilIface])) := by
  have HN := Lib.hid (fun W => pnew_ok p W hp)
  obtain ⟨sl, bl, ST, tv, rfl, hc, ht, hb, hS, hj⟩ := h
  have HC := Lib.hid hc
  have HA := Lib.hid (fun W (hb : Below w.heap.size w W) => kadd_some ST B A hg.tab (tm T sl) W tv (ht.below hb) p none 0 0 (fun _ => ⟨0, 0, 0, 0⟩) kZ 0 i hf)
  have HACT := Lib.hid (fun W W' (h0 : Below w.heap.size w W) (ht : PKTab ST B W' (A.addAt i 0) (upd (tm T sl) i ⟨p, .slice none 0 0, 0, fun _ => ⟨0, 0, 0, 0⟩, kZ⟩) tv) (hk : Keeps ST W W') => Lf.act (v := .pointer (some ⟨bl, 0, none⟩)) (T := T) rfl hc hb hS hj hX h0 (.slice none 0 0) ht hk (JobsX.nil X W _))
  obtain ⟨b, g1, c1, g2, c2, g3, c3, rfl, _⟩ := ht
  clear hj hg hf hc hp hb hS hX
  go_enter Tryz.func17, Tryz.ntmps17
  go_wp2_with fail
  refine (HN.out _).mono ?_
  rintro e w1 ⟨rfl, hb1⟩
  obtain ⟨W1, hW1⟩ : ∃ W1, W1 = w1.alloc (.cells #[.int .i64 p, .slice none 0 0, .int .i64 0, .int .i64 0, .int .i64 0, .int .i64 0, .int .i64 0, .int .i64 0] KT) := ⟨_, rfl⟩
  have HB1 := Lib.hid (show Below w.heap.size w W1 from by rw [hW1]; exact hb1.alloc hb1.size _)
  have HT1 := Lib.hid (show HasT W1 w1.heap.size p (.slice none 0 0) kZ from by rw [hW1]; exact hasT_new w1 p _ kZ)
  have HW := Lib.hid hW1
  clear hW1 hb1
  go_upto_region 4 with fail
  rw [← HW.out]
  obtain ⟨x0, x1, x2, x3, x4, x5, x6, x7⟩ := HT1.out.cells
  have hc1 := (HB1.out.cell (p := ⟨bl, 0, none⟩) (cell_lt HC.out)).trans HC.out
  go_region_law (go_simp; go_at_call 47; refine (HA.out _ HB1.out.drew).mono ?_; rintro e w2 ⟨rfl, ht2, hk2⟩)
  all_goals
    have HR := Lib.hid (HACT.out _ _ HB1.out.drew ht2 hk2)
    clear ht2 hk2
    go_wp2_with fail
    go_ret2
    exact ⟨rfl, HR.out.1, HR.out.2⟩
theorem ladd (S X : Nat → Prop) (B : Nat) (A : Tab) (T : Nat → Tk) (hg : LGood A T) (w : World) (v : Value) (h : Lf S X B w A T v) (hX : ∀ x, S x → X x) (p : Int) :
    Calls Tryz.prog 17 #[v, .int .i64 p] w (LfPost S X B w (addA A p) (addT A T p) v (.tuple #[.int .i64 (addH A p), errV (addN A p)])) := by
  rcases add_ways A T p with ⟨hp, e1, e2, e3, e4⟩ | ⟨hp, hf, e1, e2, e3, e4⟩ | ⟨i, hp, hf, e1, e2, e3, e4⟩
  · rw [e1, e2, e3, e4]
    exact (ladd_no w v p hp).mono fun e w' ⟨he, hb⟩ => ⟨he, h.below hb, Keeps.of_below hb⟩
  · rw [e1, e2, e3, e4]
    exact (ladd_none S X B A T hg w v h p hp hf).mono fun e w' ⟨he, hb⟩ => ⟨he, h.below hb, Keeps.of_below hb⟩
  · rw [e1, e2, e3, e4]
    exact ladd_some S X B A T hg w v h hX p hp i hf
/-- An account in a block of its own. -/
def HasA (W : World) (g : Nat) (k : Ac) : Prop := Has W g (.cells #[.int .i64 k.g, .int .i64 k.o, .int .i64 k.n, .int .i64 k.d, .int .i64 k.c, .int .i64 k.t] 59 (0, 0))
theorem HasA.below {W W' : World} {g : Nat} {k : Ac} (h : HasA W g k) (hb : Below W.heap.size W W') : HasA W' g k := (hb.block g (has_lt h)).trans h
theorem HasA.cells {W : World} {g : Nat} {k : Ac} (h : HasA W g k) :
    W.cell? ⟨g, 0, none⟩ = some (.int .i64 k.g) ∧ W.cell? ⟨g, 1, none⟩ = some (.int .i64 k.o) ∧ W.cell? ⟨g, 2, none⟩ = some (.int .i64 k.n) ∧ W.cell? ⟨g, 3, none⟩ = some (.int .i64 k.d) ∧ W.cell? ⟨g, 4, none⟩ = some (.int .i64 k.c) ∧ W.cell? ⟨g, 5, none⟩ = some (.int .i64 k.t) :=
  ⟨(has_cell h 0).trans rfl, (has_cell h 1).trans rfl, (has_cell h 2).trans rfl, (has_cell h 3).trans rfl, (has_cell h 4).trans rfl, (has_cell h 5).trans rfl⟩
theorem hasA_new (w : World) (k : Ac) : HasA (w.alloc (.cells #[.int .i64 k.g, .int .i64 k.o, .int .i64 k.n, .int .i64 k.d, .int .i64 k.c, .int .i64 k.t] 59)) w.heap.size k := has_new _ _ _ rfl
theorem has_keeps {S : Nat → Prop} {W W' : World} {g : Nat} {o : Obj} (h : Has W g o) (hk : Keeps S W W') (hn : ¬ S g) : Has W' g o := (hk.block g (has_lt h) hn).trans h
abbrev kV6 (k : Ac) : Value := .agg #[.int .i64 k.g, .int .i64 k.o, .int .i64 k.n, .int .i64 k.d, .int .i64 k.c, .int .i64 k.t]
theorem Lf.act2 {S X : Nat → Prop} {B : Nat} {w0 w' : World} {A' : Tab} {T : Nat → Tk} {v : Value} {sl : Nat → Value} {bl : Nat} {ST : Nat → Prop} {tv : Value} (hv : v = .pointer (some ⟨bl, 0, none⟩)) (hc : w0.cell? ⟨bl, 0, none⟩ = some tv) (hb : B ≤ bl ∧ ¬ ST bl) (hS : S = fun x => x = bl ∨ ST x) (hj : ∀ i, JobsX X w0 (sl i) (T i).n (T i).f) (hX : ∀ x, S x → X x)
    {i : Nat} {p : Int} {s : Value} {n : Nat} {f : Nat → Jb} {k : Ac} (s0 : Value) (ht : PKTab ST B w' A' (upd (tm T sl) i ⟨p, s, n, f, k⟩) tv) (hk2 : Keeps ST w0 w') (hn : JobsX X w' s n f) :
    Lf S X B w' A' (upd T i ⟨p, s0, n, f, k⟩) v ∧ Keeps S w0 w' := by
  subst hS
  refine ⟨⟨upd sl i s, bl, ST, tv, hv, (hk2.cell (p := ⟨bl, 0, none⟩) (cell_lt hc) hb.2).trans hc, by rw [tm_upd]; exact ht, hb, rfl, fun j => ?_⟩, hk2.mono fun _ h => .inr h⟩
  by_cases e : j = i
  · subst e
    rw [upd_same, upd_same]
    exact hn
  · rw [upd_ne _ e, upd_ne _ e]
    exact (hj j).keeps hk2 (fun x hx => hX x (.inr hx))
theorem below6 {B g : Nat} {w W : World} (h : Below B w W) (hg : B ≤ g) (v0 v1 v2 v3 v4 v5 : Value) : Below B w ((((((W.setCell ⟨g, 0, none⟩ v0).setCell ⟨g, 1, none⟩ v1).setCell ⟨g, 2, none⟩ v2).setCell ⟨g, 3, none⟩ v3).setCell ⟨g, 4, none⟩ v4).setCell ⟨g, 5, none⟩ v5) :=
  below_low (below_low (below_low (below_low (below_low (below_low h _ _ hg) _ _ hg) _ _ hg) _ _ hg) _ _ hg) _ _ hg
theorem keeps6 {S : Nat → Prop} {g : Nat} {w W : World} (h : Keeps S w W) (hg : S g ∨ w.heap.size ≤ g) (v0 v1 v2 v3 v4 v5 : Value) : Keeps S w ((((((W.setCell ⟨g, 0, none⟩ v0).setCell ⟨g, 1, none⟩ v1).setCell ⟨g, 2, none⟩ v2).setCell ⟨g, 3, none⟩ v3).setCell ⟨g, 4, none⟩ v4).setCell ⟨g, 5, none⟩ v5) :=
  (((((h.setCell _ _ hg).setCell _ _ hg).setCell _ _ hg).setCell _ _ hg).setCell _ _ hg).setCell _ _ hg
set_option maxHeartbeats 2000000 in
set_option maxRecDepth 100000 in
theorem ldrop_none (S X : Nat → Prop) (B : Nat) (A : Tab) (T : Nat → Tk) (hg : LGood A T) (w : World) (v : Value) (h : Lf S X B w A T v) (x : Int) (hf : A.find x = none) :
    Calls Tryz.prog 19 #[v, .int .i64 x] w fun e w' => e = .returned (.tuple #[kV6 kZ, errV 20]) ∧ Below w.heap.size w w' := by
  obtain ⟨sl, bl, ST, tv, rfl, hc, ht, hb, rfl, hj⟩ := h
  obtain ⟨WA, hWA⟩ : ∃ WA, WA = w.alloc (.cells #[.int .i64 0, .int .i64 0, .int .i64 0, .int .i64 0, .int .i64 0, .int .i64 0] 59) := ⟨_, rfl⟩
  have HB := Lib.hid (show Below w.heap.size w WA from by rw [hWA]; exact (Below.refl _ _).alloc (Nat.le_refl _) _)
  have HT := Lib.hid (show HasA WA w.heap.size kZ from by rw [hWA]; exact hasA_new w kZ)
  have HW := Lib.hid hWA
  have hcA := (HB.out.cell (p := ⟨bl, 0, none⟩) (cell_lt hc)).trans hc
  have HG := Lib.hid (kget_none ST B A hg.tab (tm T sl) WA tv (ht.below HB.out) x hf)
  obtain ⟨b, g1, c1, g2, c2, g3, c3, rfl, _⟩ := ht
  clear hj hg hWA hf hc
  go_enter Tryz.func19, Tryz.ntmps19
  go_upto_region 1 with fail
  rw [← HW.out]
  go_wp2_with fail
  refine HG.out.mono ?_
  rintro e w1 ⟨rfl, hb1⟩
  rw [errV_ne (by decide)]
  have HB1 := Lib.hid (bnext HB.out hb1)
  have HT1 := HT.out.below hb1
  obtain ⟨x0, x1, x2, x3, x4, x5⟩ := HT1.cells
  have fr := fun j => has_free HT1 j
  have hlt := has_lt HT1
  have HL := Lib.hid (show w.heap.size ≤ w1.heap.size from by omega)
  clear HT1 hb1
  go_wp2_with fail
  refine bodyPost_ret (v := .tuple #[kV6 kZ, .iface 94 (.int .i64 20)]) (by simp [results, Tryz.results19, go_sem, x0, x1, x2, x3, x4, x5, hlt]) rfl ⟨rfl, ?_⟩
  exact (below6 HB1.out (Nat.le_refl _) _ _ _ _ _ _).alloc (by have := HL.out; simpa [World.setCell] using this) _
set_option maxHeartbeats 4000000 in
set_option maxRecDepth 100000 in
theorem ldrop_some (S X : Nat → Prop) (B : Nat) (A : Tab) (T : Nat → Tk) (hg : LGood A T) (w : World) (v : Value) (h : Lf S X B w A T v) (hX : ∀ x, S x → X x) (x : Int) (i : Nat) (hf : A.find x = some i) :
    Calls Tryz.prog 19 #[v, .int .i64 x] w (LfPost S X B w (A.dropAt i) (upd T i tk0) v (.tuple #[kV6 (T i).k, .nilIface])) := by
  obtain ⟨sl, bl, ST, tv, rfl, hc, ht, hb, hS, hj⟩ := h
  have HTL := Lib.hid ht.lt
  obtain ⟨WA, hWA⟩ : ∃ WA, WA = w.alloc (.cells #[.int .i64 0, .int .i64 0, .int .i64 0, .int .i64 0, .int .i64 0, .int .i64 0] 59) := ⟨_, rfl⟩
  have HB := Lib.hid (show Below w.heap.size w WA from by rw [hWA]; exact (Below.refl _ _).alloc (Nat.le_refl _) _)
  have HT := Lib.hid (show HasA WA w.heap.size kZ from by rw [hWA]; exact hasA_new w kZ)
  have HW := Lib.hid hWA
  have HC := Lib.hid hc
  have hcA := (HB.out.cell (p := ⟨bl, 0, none⟩) (cell_lt hc)).trans hc
  have HBL := Lib.hid hb.2
  have HG := Lib.hid (kget_some ST B A hg.tab (tm T sl) WA tv (ht.below HB.out) (isSl_tm (w := w) hj) x i hf)
  dsimp only [tm] at HG
  have HD := Lib.hid (fun W (hb : Below w.heap.size w W) => kdrop_some ST B A hg.tab (tm T sl) W tv (ht.below hb) x i hf)
  have HACT := Lib.hid (fun W' (ht : PKTab ST B W' (A.dropAt i) (upd (tm T sl) i tk0) tv) (hk : Keeps ST w W') => Lf.act2 (v := .pointer (some ⟨bl, 0, none⟩)) (T := T) rfl hc hb hS hj hX (.slice none 0 0) ht hk (JobsX.nil X W' _))
  obtain ⟨⟨q0, cap0, hs, _⟩, _⟩ := hj i
  rw [hs] at HG
  obtain ⟨b, g1, c1, g2, c2, g3, c3, rfl, _⟩ := ht
  obtain ⟨t, hti⟩ : ∃ t, t = T i := ⟨_, rfl⟩
  rw [← hti] at HG ⊢
  clear hj hg hWA hf hc hs hti hS hX hb
  obtain ⟨tp, ts, tn, tf, ⟨kg, ko, kn, kd, kc, kt⟩⟩ := t
  dsimp only at HG ⊢
  go_enter Tryz.func19, Tryz.ntmps19
  go_upto_region 1 with fail
  rw [← HW.out]
  go_wp2_with fail
  refine HG.out.mono ?_
  rintro e w1 ⟨rfl, hb1⟩
  obtain ⟨W1, hW1⟩ : ∃ W1, W1 = w1.alloc (.cells #[.int .i64 tp, .slice q0 tn cap0, .int .i64 kg, .int .i64 ko, .int .i64 kn, .int .i64 kd, .int .i64 kc, .int .i64 kt] KT) := ⟨_, rfl⟩
  have HB1 := Lib.hid (show Below w.heap.size w W1 from by rw [hW1]; have h1 := bnext HB.out hb1; exact h1.alloc h1.size _)
  have HT1 := Lib.hid (show HasT W1 w1.heap.size tp (.slice q0 tn cap0) ⟨kg, ko, kn, kd, kc, kt⟩ from by rw [hW1]; exact hasT_new w1 tp _ ⟨kg, ko, kn, kd, kc, kt⟩)
  have HA1 := Lib.hid (show HasA W1 w.heap.size kZ from by rw [hW1]; exact has_old (HT.out.below hb1) _)
  have HL := Lib.hid (show w.heap.size < w1.heap.size from has_lt (HT.out.below hb1))
  have HW2 := Lib.hid hW1
  clear hW1 hb1
  go_upto_region 4 with fail
  rw [← HW2.out]
  have hc1 := (HB1.out.cell (p := ⟨bl, 0, none⟩) (cell_lt HC.out)).trans HC.out
  obtain ⟨x0, x1, x2, x3, x4, x5, x6, x7⟩ := HT1.out.cells
  obtain ⟨y0, y1, y2, y3, y4, y5⟩ := HA1.out.cells
  have fr := fun j => has_free HA1.out j
  have hl := HL.out
  have k6 : ¬ w.heap.size = w1.heap.size := by omega
  have k7 : ¬ w1.heap.size = w.heap.size := by omega
  have hn1 := Lib.hid (show ¬ ST w1.heap.size from fun k => by have := (HTL.out _ k).2; omega)
  have hn2 := Lib.hid (show ¬ ST w.heap.size from fun k => by have := (HTL.out _ k).2; omega)
  go_region_law (go_simp; go_at_call 53; refine (HD.out _ HB1.out.drew).mono ?_; rintro e w2 ⟨rfl, ht2, hk2⟩; have hh1 := HasT.cells (has_keeps (W := W1.drew) HT1.out hk2 hn1.out); have hh2 := has_keeps (W := W1.drew) HA1.out hk2 hn2.out; obtain ⟨z0, z1, z2, z3, z4, z5, z6, z7⟩ := hh1; obtain ⟨u0, u1, u2, u3, u4, u5⟩ := HasA.cells hh2; have fr2 := fun j => has_free hh2 j)
  all_goals
    have HT2 := Lib.hid ht2
    have HK2 := Lib.hid (Keeps.trans (Keeps.of_below HB1.out.drew) hk2)
    clear ht2 hk2
    go_wp2_with fail
    refine bodyPost_ret (v := .tuple #[kV6 ⟨kg, ko, kn, kd, kc, kt⟩, .nilIface]) (by simp [results, Tryz.results19, go_sem, u0, u1, u2, u3, u4, u5]) rfl ⟨rfl, ?_⟩
    refine HACT.out _ ?_ (keeps6 HK2.out (.inr (Nat.le_refl _)) _ _ _ _ _ _)
    exact HT2.out.keeps (keeps6 (Keeps.refl (fun y => y = w.heap.size) w2) (.inl rfl) _ _ _ _ _ _) (fun y hy e => hn2.out (by rw [← e]; exact hy))
theorem ldrop (S X : Nat → Prop) (B : Nat) (A : Tab) (T : Nat → Tk) (hg : LGood A T) (w : World) (v : Value) (h : Lf S X B w A T v) (hX : ∀ x, S x → X x) (x : Int) :
    Calls Tryz.prog 19 #[v, .int .i64 x] w (LfPost S X B w (dropA A x) (dropT A T x) v (.tuple #[kV6 (dropK A T x), errV (dropN A x)])) := by
  rcases drop_ways A T x with ⟨hf, e1, e2, e3, e4⟩ | ⟨i, hf, e1, e2, e3, e4⟩
  · rw [e1, e2, e3, e4]
    exact (ldrop_none S X B A T hg w v h x hf).mono fun e w' ⟨he, hb⟩ => ⟨he, h.below hb, Keeps.of_below hb⟩
  · rw [e1, e2, e3, e4]
    exact ldrop_some S X B A T hg w v h hX x i hf
end Go.Proofs.YthbkinopgialmaaGreatDoor
