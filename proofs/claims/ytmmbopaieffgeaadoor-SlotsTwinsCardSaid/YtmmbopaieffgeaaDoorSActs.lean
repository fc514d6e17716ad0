/- The document's own Get, Set, Drop, Add of a table; no condition but those that each row names. -/
import Derived.Test.YtmmbopaieffgeaaDoorSCopy
namespace Go.Proofs.YtmmbopaieffgeaaDoor
open Go.RowKit

theorem ret_two {a b x y : Int} (h1 : a = x) (h2 : b = y) : Ending.returned (.tuple #[.int .i64 a, .int .i64 b]) = .returned (.tuple #[.int .i64 x, .int .i64 y]) := by rw [h1, h2]
theorem ints_set (l : List Int) (i : Nat) (v : Int) : (ints l).set i (.int .i64 v) = ints (l.set i v) := by unfold ints; rw [List.map_set]
theorem bools_set (l : List Bool) (i : Nat) (v : Bool) : (bools l).set i (.bool v) = bools (l.set i v) := by unfold bools; rw [List.map_set]
theorem RT.of_own3 {S : Nat → Prop} {B : Nat} {w : World} {A : Tab} {g1 c1 g2 c2 g3 c3 : Nat} (h : Own3 B w A g1 c1 g2 c2 g3 c3) (hA : A.Good) (hS : ∀ b, S b → b < B) :
    RT S w A (.slice (some ⟨g1, 0, none⟩) A.gens.length c1) (.slice (some ⟨g2, 0, none⟩) A.taken.length c2) (.slice (some ⟨g3, 0, none⟩) A.list.length c3) := by
  have n4 := hA.n4
  have h1 := hA.lt
  have h2 := hA.ll
  have hs : ∀ b, B ≤ b → b < w.heap.size → ¬ S b := fun b h1 _ k => by have := hS b k; omega
  exact ⟨Lst.of_own h.g (ints_len _) (by omega) hs, Lst.of_own h.t (bools_len _) (by omega) hs, Lst.of_own h.l (ints_len _) (by omega) hs⟩

/-- A row stays behind four stores into another block and a new block. -/
theorem own_tail {e B n : Nat} {w : World} {v : Value} {xs : List Value} (h : w.ownsRow B e 1 v n xs) (R : Nat) (hne : v.ownBlock ≠ some R) (u0 u1 u2 u3 : Value) (o : Obj) :
    (((((w.setCell ⟨R, 0, none⟩ u0).setCell ⟨R, 1, none⟩ u1).setCell ⟨R, 2, none⟩ u2).setCell ⟨R, 3, none⟩ u3).alloc o).ownsRow B e 1 v n xs :=
  (own_other (own_other (own_other (own_other h ⟨R, 0, none⟩ u0 hne) ⟨R, 1, none⟩ u1 hne) ⟨R, 2, none⟩ u2 hne) ⟨R, 3, none⟩ u3 hne).alloc o
theorem below_tail {B : Nat} {w0 w : World} (h : Below B w0 w) (R : Nat) (hR : B ≤ R) (u0 u1 u2 u3 : Value) (o : Obj) (hs : B ≤ w.heap.size) :
    Below B w0 (((((w.setCell ⟨R, 0, none⟩ u0).setCell ⟨R, 1, none⟩ u1).setCell ⟨R, 2, none⟩ u2).setCell ⟨R, 3, none⟩ u3).alloc o) :=
  ((((h.setCell hR u0).setCell hR u1).setCell hR u2).setCell hR u3).alloc (by simpa [World.setCell] using hs) o

def getV (A : Tab) (x : Int) : Int := match A.find x with
  | none => 0
  | some i => A.v i
def getN (A : Tab) (x : Int) : Int := match A.find x with
  | none => 20
  | some _ => 0

set_option maxHeartbeats 1000000 in
set_option maxRecDepth 100000 in
theorem rget_any (S : Nat → Prop) (A : Tab) (hA : A.Good) (x : Int) (gs ts ls : Value) (w : World) (h : RT S w A gs ts ls) :
    Calls Tryd.prog 32 #[rv A.kind gs ts ls, .int .i64 x] w fun e w' => e = .returned (.tuple #[.int .i64 (getV A x), .int .i64 (getN A x)]) ∧ Below w.heap.size w w' := by
  have hb0 : ∀ o, Below w.heap.size w (w.alloc o) := fun o => (Below.refl _ _).alloc (Nat.le_refl _) o
  have HF := Lib.hid (fun w h => rfind_any S A hA x gs ts ls w h)
  have HR := Lib.hid (fun o => h.below (hb0 o))
  cases hf : A.find x with
  | none =>
    rw [hf] at HF
    have e1 : getV A x = 0 := by unfold getV; rw [hf]
    have e2 : getN A x = 20 := by unfold getN; rw [hf]
    rw [e1, e2]
    clear e1 e2 hf h hb0
    go_enter Tryd.func32, Tryd.ntmps32
    go_wp2_with fail
    refine (HF.out _ (HR.out _)).mono ?_
    rintro e w1 ⟨rfl, hb1⟩
    have hval : optV none = -1 := rfl
    rw [hval]
    clear hval
    go_wp2_with fail
    go_ret2
    exact ⟨rfl, (Below.alloc (Below.refl _ _) (Nat.le_refl _) _).trans (hb1.mono (by simp))⟩
  | some i =>
    rw [hf] at HF
    obtain ⟨hi, _⟩ := firstIn_inv hf
    have hi' : i < A.gens.length := hi
    have hll := hA.ll
    have n4 := hA.n4
    obtain ⟨_, _, ⟨r, cr, rfl, _, hl⟩⟩ := h
    obtain ⟨b, off, rfl, _, hc⟩ := hl i _ (ints_at (by omega))
    have hblk := cell_lt hc
    simp only at hblk
    rw [ints_len, hll] at HF HR ⊢
    have e1 : getV A x = A.list.getD i 0 := by unfold getV; rw [hf]; rfl
    have e2 : getN A x = 0 := by unfold getN; rw [hf]
    rw [e1, e2]
    clear e1 e2 hf hb0 hl hi hll
    generalize A.list.getD i 0 = y at *
    go_enter Tryd.func32, Tryd.ntmps32
    go_wp2_with fail
    refine (HF.out _ (HR.out _)).mono ?_
    rintro e w1 ⟨rfl, hb1⟩
    obtain ⟨hc1, hf1⟩ := bcell hb1
    have hval : optV (some i) = (i : Int) := rfl
    rw [hval]
    clear hval
    go_wp2_with fail
    go_ret2
    exact ⟨rfl, (Below.alloc (Below.refl _ _) (Nat.le_refl _) _).trans (hb1.mono (by simp))⟩

/-- What is answered of a table and a number. -/
def TabPost (S : Nat → Prop) (w : World) (A : Tab) (n : Int) (e : Ending) (w' : World) : Prop :=
  ∃ gs ts ls, e = .returned (.tuple #[rv A.kind gs ts ls, .int .i64 n]) ∧ RT S w' A gs ts ls ∧ Below w.heap.size w w'

theorem RT.shapes {S : Nat → Prop} {w : World} {A : Tab} {gs ts ls : Value} (h : RT S w A gs ts ls) :
    ∃ p cp q cq r cr, gs = .slice p A.gens.length cp ∧ ts = .slice q A.taken.length cq ∧ ls = .slice r A.list.length cr := by
  obtain ⟨⟨p, cp, rfl, _, _⟩, ⟨q, cq, rfl, _, _⟩, ⟨r, cr, rfl, _, _⟩⟩ := h
  rw [ints_len, bools_len, ints_len]
  exact ⟨_, _, _, _, _, _, rfl, rfl, rfl⟩

set_option maxHeartbeats 4000000 in
set_option maxRecDepth 100000 in
theorem rset_none (S : Nat → Prop) (A : Tab) (hA : A.Good) (x v : Int) (hf : A.find x = none) (gs ts ls : Value) (w : World) (h : RT S w A gs ts ls) :
    Calls Tryd.prog 33 #[rv A.kind gs ts ls, .int .i64 x, .int .i64 v] w (TabPost S w A 20) := by
  have hb0 : ∀ o o', Below w.heap.size w ((w.alloc o).alloc o') := fun o o' => ((Below.refl w.heap.size w).alloc (Nat.le_refl _) o).alloc (by simp) o'
  have HF := Lib.hid (fun w h => rfind_any S A hA x gs ts ls w h)
  rw [hf] at HF
  have HR := Lib.hid (fun o o' => h.below (hb0 o o'))
  have HH := Lib.hid h
  obtain ⟨p, cp, q, cq, r, cr, rfl, rfl, rfl⟩ := h.shapes
  clear hf h hb0
  go_enter Tryd.func33, Tryd.ntmps33
  go_wp2_with fail
  refine (HF.out _ (HR.out _ _)).mono ?_
  rintro e w1 ⟨rfl, hb1⟩
  obtain ⟨hc1, hf1⟩ := bcell hb1
  have hval : optV none = -1 := rfl
  rw [hval]
  clear hval
  have y1 : w.heap.size + 1 < w1.heap.size := by have := hb1.size; simp at this; omega
  have y0 : w.heap.size < w1.heap.size := by omega
  have hbw1 : Below w.heap.size w w1 := (((Below.refl w.heap.size w).alloc (Nat.le_refl _) _).alloc (by simp) _).trans (hb1.mono (by simp; omega))
  go_wp2_with fail
  have hB : ∀ u0 u1 u2 u3, Below w.heap.size w ((((w1.setCell ⟨w.heap.size + 1, 0, none⟩ u0).setCell ⟨w.heap.size + 1, 1, none⟩ u1).setCell ⟨w.heap.size + 1, 2, none⟩ u2).setCell ⟨w.heap.size + 1, 3, none⟩ u3) :=
    fun u0 u1 u2 u3 => (((hbw1.setCell (by simp) u0).setCell (by simp) u1).setCell (by simp) u2).setCell (by simp) u3
  refine bodyPost_ret (v := .tuple #[rv A.kind (.slice p A.gens.length cp) (.slice q A.taken.length cq) (.slice r A.list.length cr), .int .i64 20]) ?r1 rfl ?_
  case r1 => simp [results, Tryd.results33, go_sem, hc1]
  exact ⟨_, _, _, rfl, HH.out.below (hB _ _ _ _), hB _ _ _ _⟩

set_option maxHeartbeats 4000000 in
set_option maxRecDepth 100000 in
theorem rdrop_none (S : Nat → Prop) (A : Tab) (hA : A.Good) (x : Int) (hf : A.find x = none) (gs ts ls : Value) (w : World) (h : RT S w A gs ts ls) :
    Calls Tryd.prog 34 #[rv A.kind gs ts ls, .int .i64 x] w (TabPost S w A 20) := by
  have hb0 : ∀ o o', Below w.heap.size w ((w.alloc o).alloc o') := fun o o' => ((Below.refl w.heap.size w).alloc (Nat.le_refl _) o).alloc (by simp) o'
  have HF := Lib.hid (fun w h => rfind_any S A hA x gs ts ls w h)
  rw [hf] at HF
  have HR := Lib.hid (fun o o' => h.below (hb0 o o'))
  have HH := Lib.hid h
  obtain ⟨p, cp, q, cq, r, cr, rfl, rfl, rfl⟩ := h.shapes
  clear hf h hb0
  go_enter Tryd.func34, Tryd.ntmps34
  go_wp2_with fail
  refine (HF.out _ (HR.out _ _)).mono ?_
  rintro e w1 ⟨rfl, hb1⟩
  obtain ⟨hc1, hf1⟩ := bcell hb1
  have hval : optV none = -1 := rfl
  rw [hval]
  clear hval
  have y1 : w.heap.size + 1 < w1.heap.size := by have := hb1.size; simp at this; omega
  have y0 : w.heap.size < w1.heap.size := by omega
  have hbw1 : Below w.heap.size w w1 := (((Below.refl w.heap.size w).alloc (Nat.le_refl _) _).alloc (by simp) _).trans (hb1.mono (by simp; omega))
  go_wp2_with fail
  have hB : ∀ u0 u1 u2 u3, Below w.heap.size w ((((w1.setCell ⟨w.heap.size + 1, 0, none⟩ u0).setCell ⟨w.heap.size + 1, 1, none⟩ u1).setCell ⟨w.heap.size + 1, 2, none⟩ u2).setCell ⟨w.heap.size + 1, 3, none⟩ u3) :=
    fun u0 u1 u2 u3 => (((hbw1.setCell (by simp) u0).setCell (by simp) u1).setCell (by simp) u2).setCell (by simp) u3
  refine bodyPost_ret (v := .tuple #[rv A.kind (.slice p A.gens.length cp) (.slice q A.taken.length cq) (.slice r A.list.length cr), .int .i64 20]) ?r1 rfl ?_
  case r1 => simp [results, Tryd.results34, go_sem, hc1]
  exact ⟨_, _, _, rfl, HH.out.below (hB _ _ _ _), hB _ _ _ _⟩

set_option maxHeartbeats 4000000 in
set_option maxRecDepth 100000 in
theorem rset_some (S : Nat → Prop) (A : Tab) (hA : A.Good) (x v : Int) (i : Nat) (hf : A.find x = some i) (gs ts ls : Value) (w : World) (h : RT S w A gs ts ls) (hS : ∀ b, S b → b < w.heap.size) :
    Calls Tryd.prog 33 #[rv A.kind gs ts ls, .int .i64 x, .int .i64 v] w (TabPost S w (A.setAt i v) 0) := by
  have hb0 : ∀ o o', Below w.heap.size w ((w.alloc o).alloc o') := fun o o' => ((Below.refl w.heap.size w).alloc (Nat.le_refl _) o).alloc (by simp) o'
  have HF := Lib.hid (fun w h => rfind_any S A hA x gs ts ls w h)
  have HC := Lib.hid (fun w h => rcopy_any S A hA gs ts ls w h)
  obtain ⟨hi, _⟩ := firstIn_inv hf
  have hi' : i < A.gens.length := hi
  have hll := hA.ll
  have n4 := hA.n4
  rw [hf] at HF
  have HR := Lib.hid (fun o o' => h.below (hb0 o o'))
  have HG := Lib.hid (set_good hA i v)
  obtain ⟨p, cp, q, cq, r, cr, rfl, rfl, rfl⟩ := h.shapes
  have hil : i < A.list.length := by omega
  clear hf h hb0 hi hll
  go_enter Tryd.func33, Tryd.ntmps33
  go_wp2_with fail
  refine (HF.out _ (HR.out _ _)).mono ?_
  rintro e w1 ⟨rfl, hb1⟩
  obtain ⟨hc1, hf1⟩ := bcell hb1
  have hval : optV (some i) = (i : Int) := rfl
  rw [hval]
  clear hval
  have y1 : w.heap.size + 1 < w1.heap.size := by have := hb1.size; simp at this; omega
  have y0 : w.heap.size < w1.heap.size := by omega
  have hbw1 : Below w.heap.size w w1 := (((Below.refl w.heap.size w).alloc (Nat.le_refl _) _).alloc (by simp) _).trans (hb1.mono (by simp; omega))
  have HR1 := Lib.hid ((HR.out _ _).below hb1)
  go_wp2_with fail
  refine (HC.out _ HR1.out).mono ?_
  rintro e w2 ⟨g1, d1, g2, d2, g3, d3, rfl, ho, hb2⟩
  obtain ⟨hc2, hf2⟩ := bcell hb2
  have HO := Lib.hid ho
  obtain ⟨l1, l2⟩ := ho.l.lt g3 (by simp [Value.ownBlock])
  have q1 := ho.l.cellAt i (by omega)
  rw [ints_at hil] at q1
  have q2 := ho.l.frozenAt i
  have y2 : w.heap.size + 1 < w2.heap.size := Nat.lt_of_lt_of_le y1 hb2.size
  have y3 : w.heap.size < w2.heap.size := by omega
  have hbw2 : Below w.heap.size w w2 := bnext hbw1 hb2
  have z0 : (0 : Int) ≤ (i : Int) := by omega
  have z1 : (i : Int) < (A.list.length : Int) := by omega
  clear ho
  go_wp2_with fail
  have hO := HO.out
  have f1 := (hO.g.lt g1 (by simp [Value.ownBlock])).1
  have f2 := (hO.t.lt g2 (by simp [Value.ownBlock])).1
  have hst := (hO.l.stored i (.int .i64 v)).1
  rw [ints_set] at hst
  have hrt0 : ∀ u0 u1 u2 u3 o, RT S ((((((w2.setCell ⟨g3, i, none⟩ (.int .i64 v)).setCell ⟨w.heap.size + 1, 0, none⟩ u0).setCell ⟨w.heap.size + 1, 1, none⟩ u1).setCell ⟨w.heap.size + 1, 2, none⟩ u2).setCell ⟨w.heap.size + 1, 3, none⟩ u3).alloc o) (A.setAt i v)
      (.slice (some ⟨g1, 0, none⟩) A.gens.length d1) (.slice (some ⟨g2, 0, none⟩) A.taken.length d2) (.slice (some ⟨g3, 0, none⟩) (A.setAt i v).list.length d3) := fun u0 u1 u2 u3 o =>
    RT.of_own3 (B := w1.heap.size)
      ⟨own_tail (own_other hO.g ⟨g3, i, none⟩ (.int .i64 v) (by simp [Value.ownBlock]; exact hO.n13)) (w.heap.size + 1) (by simp [Value.ownBlock]; omega) u0 u1 u2 u3 o,
       own_tail (own_other hO.t ⟨g3, i, none⟩ (.int .i64 v) (by simp [Value.ownBlock]; exact hO.n23)) (w.heap.size + 1) (by simp [Value.ownBlock]; omega) u0 u1 u2 u3 o,
       own_tail (by simpa [Tab.setAt] using hst) (w.heap.size + 1) (by simp [Value.ownBlock]; omega) u0 u1 u2 u3 o, hO.n12, hO.n13, hO.n23⟩
      HG.out (fun b hb => by have := hS b hb; omega)
  have hlen : (A.setAt i v).list.length = A.list.length := by simp [Tab.setAt]
  rw [hlen] at hrt0
  have t0 : w2.cell? ⟨w.heap.size + 1, 0, none⟩ = some (.int .i64 0) := by rw [hc2 _ _ y1, hc1 _ _ (by simp)]; simp
  have t1 : w2.cell? ⟨w.heap.size + 1, 1, none⟩ = some (.slice none 0 0) := by rw [hc2 _ _ y1, hc1 _ _ (by simp)]; simp
  have t2 : w2.cell? ⟨w.heap.size + 1, 2, none⟩ = some (.slice none 0 0) := by rw [hc2 _ _ y1, hc1 _ _ (by simp)]; simp
  have t3 : w2.cell? ⟨w.heap.size + 1, 3, none⟩ = some (.slice none 0 0) := by rw [hc2 _ _ y1, hc1 _ _ (by simp)]; simp
  have gs : w.heap.size + 1 < w2.heap.size := y2
  refine bodyPost_ret (v := .tuple #[rv A.kind (.slice (some ⟨g1, 0, none⟩) A.gens.length d1) (.slice (some ⟨g2, 0, none⟩) A.taken.length d2) (.slice (some ⟨g3, 0, none⟩) A.list.length d3), .int .i64 0]) ?r1 rfl ?_
  case r1 => simp [results, Tryd.results33, go_sem, t0, t1, t2, t3, gs]
  exact ⟨_, _, _, rfl, hrt0 _ _ _ _ _, below_tail (hbw2.setCell (p := ⟨g3, i, none⟩) (by simp; omega) _) _ (by simp) _ _ _ _ _ (by simp [World.setCell]; omega)⟩
end Go.Proofs.YtmmbopaieffgeaaDoor
