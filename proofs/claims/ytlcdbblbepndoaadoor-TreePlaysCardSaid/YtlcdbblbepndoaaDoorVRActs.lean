/- The document's own Get, Set, Drop, Add of a table; no condition but those that each row names. -/
import Derived.Test.YtlcdbblbepndoaaDoorSCopy
namespace Go.Proofs.YtlcdbblbepndoaaDoor
open Go.RowKit

theorem RT.of_own3 {S : Nat → Prop} {B : Nat} {w : World} {A : Tab} {g1 c1 g2 c2 g3 c3 : Nat} (h : Own3 B w A g1 c1 g2 c2 g3 c3) (hA : A.Good) (hS : ∀ b, S b → b < B) :
    RT S w A (.slice (some ⟨g1, 0, none⟩) A.gens.length c1) (.slice (some ⟨g2, 0, none⟩) A.taken.length c2) (.slice (some ⟨g3, 0, none⟩) A.list.length c3) := by
  have n4 := hA.n4
  have h1 := hA.lt
  have h2 := hA.ll
  have hs : ∀ b, B ≤ b → b < w.heap.size → ¬ S b := fun b h1 _ k => by have := hS b k; omega
  exact ⟨Lst.of_own h.g (ints_len _) (by omega) hs, Lst.of_own h.t (bools_len _) (by omega) hs, Lst.of_own h.l (ints_len _) (by omega) hs⟩

/-- A row stays behind four stores into another block and a new block. -/
theorem own_tail {e B n : Nat} {w : World} {v : Value} {xs : List Value} (h : w.ownsRow B e 1 v n xs) (R : Nat) (hne : v.ownBlock ≠ some R) (u0 u1 u2 u3 : Value) (o : Obj) :
    (((((w.setCell ⟨R, 0, none⟩ u0).setCell ⟨R, 1, none⟩ u1).setCell ⟨R, 2, none⟩ u2).setCell ⟨R, 3, none⟩ u3).alloc o).ownsRow B e 1 v n xs :=
  (own_other (own_other (own_other (own_other h ⟨R, 0, none⟩ u0 hne) ⟨R, 1, none⟩ u1 hne) ⟨R, 2, none⟩ u2 hne) ⟨R, 3, none⟩ u3 hne).alloc o
theorem below_tail {B : Nat} {w0 w : World} (h : Below B w0 w) (R : Nat) (hR : B ≤ R) (u0 u1 u2 u3 : Value) (o : Obj) (hs : B ≤ w.heap.size) :
    Below B w0 (((((w.setCell ⟨R, 0, none⟩ u0).setCell ⟨R, 1, none⟩ u1).setCell ⟨R, 2, none⟩ u2).setCell ⟨R, 3, none⟩ u3).alloc o) :=
  ((((h.setCell hR u0).setCell hR u1).setCell hR u2).setCell hR u3).alloc (by simpa [World.setCell] using hs) o

/-- What is answered of a table and a number. -/
def TabPost (S : Nat → Prop) (w : World) (A : Tab) (n : Int) (e : Ending) (w' : World) : Prop :=
  ∃ gs ts ls, e = .returned (.tuple #[rv A.kind gs ts ls, .int .i64 n]) ∧ RT S w' A gs ts ls ∧ Below w.heap.size w w'

theorem RT.shapes {S : Nat → Prop} {w : World} {A : Tab} {gs ts ls : Value} (h : RT S w A gs ts ls) :
    ∃ p cp q cq r cr, gs = .slice p A.gens.length cp ∧ ts = .slice q A.taken.length cq ∧ ls = .slice r A.list.length cr := by
  obtain ⟨⟨p, cp, rfl, _, _⟩, ⟨q, cq, rfl, _, _⟩, ⟨r, cr, rfl, _, _⟩⟩ := h
  rw [ints_len, bools_len, ints_len]
  exact ⟨_, _, _, _, _, _, rfl, rfl, rfl⟩

set_option maxHeartbeats 4000000 in
set_option maxRecDepth 100000 in
theorem rdrop_none (S : Nat → Prop) (A : Tab) (hA : A.Good) (x : Int) (hf : A.find x = none) (gs ts ls : Value) (w : World) (h : RT S w A gs ts ls) :
    Calls Tryd.prog 29 #[rv A.kind gs ts ls, .int .i64 x] w (TabPost S w A 20) := by
  have hb0 : ∀ o o', Below w.heap.size w ((w.alloc o).alloc o') := fun o o' => ((Below.refl w.heap.size w).alloc (Nat.le_refl _) o).alloc (by simp) o'
  have HF := Lib.hid (fun w h => rfind_any S A hA x gs ts ls w h)
  rw [hf] at HF
  have HR := Lib.hid (fun o o' => h.below (hb0 o o'))
  have HH := Lib.hid h
  obtain ⟨p, cp, q, cq, r, cr, rfl, rfl, rfl⟩ := h.shapes
  clear hf h hb0
  go_enter Tryd.func29, Tryd.ntmps29
  go_wp2_with fail
  refine (HF.out _ (HR.out _ _)).mono ?_
  rintro e w1 ⟨rfl, hb1⟩
  obtain ⟨hc1, hf1⟩ := bcell hb1
  have hval : optV none = -1 := rfl
  rw [hval]
  clear hval
  have y1 : w.heap.size + 1 < w1.heap.size := by have := hb1.size; simp at this; omega
  have y0 : w.heap.size < w1.heap.size := by omega
  have hbw1 : Below w.heap.size w w1 := (((Below.refl w.heap.size w).alloc (Nat.le_refl _) _).alloc (by simp) _).trans (hb1.mono (by simp; omega))
  go_wp2_with fail
  have hB : ∀ u0 u1 u2 u3, Below w.heap.size w ((((w1.setCell ⟨w.heap.size + 1, 0, none⟩ u0).setCell ⟨w.heap.size + 1, 1, none⟩ u1).setCell ⟨w.heap.size + 1, 2, none⟩ u2).setCell ⟨w.heap.size + 1, 3, none⟩ u3) :=
    fun u0 u1 u2 u3 => (((hbw1.setCell (by simp) u0).setCell (by simp) u1).setCell (by simp) u2).setCell (by simp) u3
  refine bodyPost_ret (v := .tuple #[rv A.kind (.slice p A.gens.length cp) (.slice q A.taken.length cq) (.slice r A.list.length cr), .int .i64 20]) ?r1 rfl ?_
  case r1 => simp [results, Tryd.results29, go_sem, hc1]
  exact ⟨_, _, _, rfl, HH.out.below (hB _ _ _ _), hB _ _ _ _⟩

end Go.Proofs.YtlcdbblbepndoaaDoor
