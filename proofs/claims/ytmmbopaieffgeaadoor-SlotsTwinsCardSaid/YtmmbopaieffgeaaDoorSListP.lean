/- The program's Len, Slots, Clone, All of a table; no condition but those that each row names. -/
import Derived.Test.YtmmbopaieffgeaaDoorSClone
import Derived.Test.YtmmbopaieffgeaaDoorSNewP
namespace Go.Proofs.YtmmbopaieffgeaaDoor
open Go.RowKit

theorem own_cells {B e n cap : Nat} {w : World} {g : Nat} {xs : List Value} (h : w.ownsRow B e 1 (.slice (some ⟨g, 0, none⟩) n cap) n xs) : ∀ j u, xs[j]? = some u → w.cell? ⟨g, 0 + j, none⟩ = some u := by
  intro j u hu
  have := h.cells (g := g) rfl j u hu
  rw [addr_add] at this
  exact this
theorem below_drewOne {w : World} : Below w.heap.size w w.drew := ⟨rfl, rfl, rfl, Nat.le_refl _, fun _ _ => rfl⟩

set_option maxHeartbeats 1000000 in
set_option maxRecDepth 100000 in
theorem plen (S : Nat → Prop) (B : Nat) (A : Tab) (hA : A.Good) (w : World) (v : Value) (h : PTab S B w A v) :
    Calls Tryd.prog 20 #[v] w fun e w' => e = .returned (.int .i64 (A.idxs.length : Nat)) ∧ w = w' := by
  obtain ⟨b, g1, c1, g2, c2, g3, c3, rfl, h, _⟩ := h
  have f2 := h.f2
  have n4 := hA.n4
  have hlt := hA.lt
  have HL := Lib.hid (count_any (fun _ => False) A.taken _ w (Lst.of_own h.own.t (bools_len _) (by omega) (fun _ _ _ k => k)))
  rw [idxs_count, ← hlt]
  clear h hA hlt
  go_enter Tryd.func20, Tryd.ntmps20
  go_wp2_with fail
  refine HL.out.mono ?_
  rintro e w1 ⟨rfl, rfl⟩
  go_wp2_with fail
  go_ret
  exact ⟨rfl, rfl⟩

/-- What Slots answers. -/
def SlotsPost (S : Nat → Prop) (w : World) (A : Tab) (e : Ending) (w' : World) : Prop :=
  ∃ gs ts, e = .returned (.tuple #[gs, ts]) ∧ Lst S w' gs (ints A.gens) ∧ Lst S w' ts (bools A.taken) ∧ Below w.heap.size w w'
theorem slotsPost_mk {S : Nat → Prop} {w w' : World} {A : Tab} (hA : A.Good) (hS : ∀ x, S x → x < w.heap.size) {B g1 c1 g2 c2 : Nat} (hB : w.heap.size ≤ B)
    (h1 : w'.ownsRow B 3 1 (.slice (some ⟨g1, 0, none⟩) A.gens.length c1) A.gens.length (ints A.gens)) (h2 : w'.ownsRow B 4 1 (.slice (some ⟨g2, 0, none⟩) A.gens.length c2) A.gens.length (bools A.taken)) (hb : Below w.heap.size w w') :
    SlotsPost S w A (.returned (.tuple #[.slice (some ⟨g1, 0, none⟩) A.gens.length c1, .slice (some ⟨g2, 0, none⟩) A.gens.length c2])) w' := by
  have n4 := hA.n4
  exact ⟨_, _, rfl, Lst.of_own h1 (ints_len _) (by omega) (fun x h _ k => by have := hS x k; omega), Lst.of_own h2 (by rw [bools_len, hA.lt]) (by omega) (fun x h _ k => by have := hS x k; omega), hb⟩

set_option maxHeartbeats 2000000 in
set_option maxRecDepth 100000 in
theorem pslots (S T : Nat → Prop) (B : Nat) (A : Tab) (hA : A.Good) (w : World) (v : Value) (h : PTab T B w A v) (hS : ∀ x, S x → x < w.heap.size) :
    Calls Tryd.prog 22 #[v] w (SlotsPost S w A) := by
  obtain ⟨b, g1, c1, g2, c2, g3, c3, rfl, h, hTx⟩ := h
  clear hTx
  have n1 := hA.n1
  have n4 := hA.n4
  have hlt := hA.lt
  have HP := Lib.hid (fun w1 (hb : Below w.heap.size w w1) => h.keeps (S := fun _ => False) (Keeps.of_below hb) (fun k => k) (fun k => k) (fun k => k) (fun k => k))
  have HK := Lib.hid (show ∀ W, Below w.heap.size w W → (W.cell? ⟨b, 1, none⟩ = some (.slice (some ⟨g1, 0, none⟩) A.gens.length c1) ∧ W.cell? ⟨b, 2, none⟩ = some (.slice (some ⟨g2, 0, none⟩) A.gens.length c2) ∧ Below w.heap.size w W) from
    fun W hb => ⟨(HP.out W hb).f1, by rw [← hlt]; exact (HP.out W hb).f2, hb⟩)
  have HC1 := Lib.hid (fun W (hb : Below w.heap.size w W) => clone_ints W g1 0 A.gens.length c1 A.gens rfl (by omega) (by omega) (own_cells (HP.out W hb).own.g))
  have HC2 := Lib.hid (fun W (hb : Below w.heap.size w W) => clone_bools W g2 0 A.gens.length c2 A.taken hlt (by omega) (by omega) (own_cells (HP.out W hb).own.t))
  have HA := Lib.hid hA
  have HS := Lib.hid hS
  clear h hlt hA hS
  go_enter Tryd.func22, Tryd.ntmps22
  go_wp2_with fail
  go_region_held3 (fun w' => w'.cell? ⟨b, 1, none⟩ = some (.slice (some ⟨g1, 0, none⟩) A.gens.length c1) ∧ w'.cell? ⟨b, 2, none⟩ = some (.slice (some ⟨g2, 0, none⟩) A.gens.length c2) ∧ Below w.heap.size w w')
    (first | exact HK.out _ below_drewOne | exact HK.out _ (Below.refl _ _) | (go_split_ands; refine HK.out _ (bnext ?_ hb); first | assumption | exact below_drewOne))
    (first
      | (go_at_call 39; refine (HC1.out _ ?_).mono ?_; (go_split_ands; assumption); rintro e w1 ⟨p1, d1, rfl, ho1, hb⟩; have hb1 := hb)
      | (go_at_call 40; refine (HC2.out _ ?_).mono ?_; (go_split_ands; assumption); rintro e w2 ⟨p2, d2, rfl, ho2, hb⟩; have hb2 := hb))
  all_goals
    go_wp2_with fail
    go_ret2
  have k1 := hb1.size
  have k2 : Below w.heap.size w w1 := by first | exact hb1 | exact below_drewOne.trans hb1
  exact slotsPost_mk HA.out HS.out (B := w.heap.size) (Nat.le_refl _) (own_base (own_below ho1 hb2) (by first | exact Nat.le_refl _ | (simp; done))) (own_base ho2 k2.size) (bnext k2 hb2)

def ClonedPost (w : World) (A : Tab) (e : Ending) (w' : World) : Prop := ∃ S v, e = .returned v ∧ PTab S w.heap.size w' A v ∧ Below w.heap.size w w'
theorem pt_clone {B : Nat} (W : World) (A : Tab) (b r1 c1 r2 c2 r3 c3 T : Nat) (hb : b = W.heap.size) (hB : B ≤ b) (hlt : A.taken.length = A.gens.length) (hll : A.list.length = A.gens.length) (h1 : W.ownsRow B 3 1 (.slice (some ⟨r1, 0, none⟩) A.gens.length c1) A.gens.length (ints A.gens)) (h2 : W.ownsRow B 4 1 (.slice (some ⟨r2, 0, none⟩) A.gens.length c2) A.gens.length (bools A.taken))
    (h3 : W.ownsRow B 3 1 (.slice (some ⟨r3, 0, none⟩) A.gens.length c3) A.gens.length (ints A.list)) (n12 : r1 ≠ r2) (n13 : r1 ≠ r3) (n23 : r2 ≠ r3) :
    PT B (W.alloc (.cells #[.int .i64 A.kind, .slice (some ⟨r1, 0, none⟩) A.gens.length c1, .slice (some ⟨r2, 0, none⟩) A.gens.length c2, .slice (some ⟨r3, 0, none⟩) A.gens.length c3] T)) A b r1 c1 r2 c2 r3 c3 := by
  subst hb
  have l1 := (h1.lt r1 rfl).2
  have l2 := (h2.lt r2 rfl).2
  have l3 := (h3.lt r3 rfl).2
  have hc : ∀ (cs : Array Value) j, (W.alloc (.cells cs T)).cell? ⟨W.heap.size, j, none⟩ = cs[j]? := fun cs j => cell_of_row _ _ j cs T (0, 0) (heap_alloc_new W _)
  exact ⟨hc _ 0, hc _ 1, by rw [hlt]; exact hc _ 2, by rw [hll]; exact hc _ 3, ⟨h1.alloc _, by rw [hlt]; exact h2.alloc _, by rw [hll]; exact h3.alloc _, n12, n13, n23⟩, hB, by omega, by omega, by omega⟩

set_option maxHeartbeats 2000000 in
set_option maxRecDepth 100000 in
theorem pclone (T : Nat → Prop) (B : Nat) (A : Tab) (hA : A.Good) (w : World) (v : Value) (h : PTab T B w A v) :
    Calls Tryd.prog 21 #[v] w (ClonedPost w A) := by
  obtain ⟨b, g1, c1, g2, c2, g3, c3, rfl, h, hTx⟩ := h
  clear hTx
  have n1 := hA.n1
  have n4 := hA.n4
  have hlt := hA.lt
  have hll := hA.ll
  have HP := Lib.hid (fun w1 (hb : Below w.heap.size w w1) => h.keeps (S := fun _ => False) (Keeps.of_below hb) (fun k => k) (fun k => k) (fun k => k) (fun k => k))
  have HK := Lib.hid (show ∀ W, Below w.heap.size w W → (W.cell? ⟨b, 0, none⟩ = some (.int .i64 A.kind) ∧ W.cell? ⟨b, 1, none⟩ = some (.slice (some ⟨g1, 0, none⟩) A.gens.length c1) ∧ W.cell? ⟨b, 2, none⟩ = some (.slice (some ⟨g2, 0, none⟩) A.gens.length c2) ∧ W.cell? ⟨b, 3, none⟩ = some (.slice (some ⟨g3, 0, none⟩) A.gens.length c3) ∧ Below w.heap.size w W) from
    fun W hb => ⟨(HP.out W hb).f0, (HP.out W hb).f1, by rw [← hlt]; exact (HP.out W hb).f2, by rw [← hll]; exact (HP.out W hb).f3, hb⟩)
  have HC1 := Lib.hid (fun W (hb : Below w.heap.size w W) => clone_ints W g1 0 A.gens.length c1 A.gens rfl (by omega) (by omega) (own_cells (HP.out W hb).own.g))
  have HC2 := Lib.hid (fun W (hb : Below w.heap.size w W) => clone_bools W g2 0 A.gens.length c2 A.taken hlt (by omega) (by omega) (own_cells (HP.out W hb).own.t))
  have HC3 := Lib.hid (fun W (hb : Below w.heap.size w W) => clone_ints W g3 0 A.gens.length c3 A.list hll (by omega) (by omega) (own_cells (HP.out W hb).own.l))
  have HLT := Lib.hid hlt
  have HLL := Lib.hid hll
  clear h hlt hll hA
  go_enter Tryd.func21, Tryd.ntmps21
  go_wp2_with fail
  go_region_held3 (fun w' => w'.cell? ⟨b, 0, none⟩ = some (.int .i64 A.kind) ∧ w'.cell? ⟨b, 1, none⟩ = some (.slice (some ⟨g1, 0, none⟩) A.gens.length c1) ∧ w'.cell? ⟨b, 2, none⟩ = some (.slice (some ⟨g2, 0, none⟩) A.gens.length c2) ∧ w'.cell? ⟨b, 3, none⟩ = some (.slice (some ⟨g3, 0, none⟩) A.gens.length c3) ∧ Below w.heap.size w w')
    (first | exact HK.out _ below_drewOne | exact HK.out _ (Below.refl _ _) | (go_split_ands; refine HK.out _ (bnext ?_ hb); first | assumption | exact below_drewOne) | (go_split_ands; exact HK.out _ (below_alloc (by assumption) _)))
    (first
      | (go_at_call_of 39 (Value.slice (some ⟨g1, 0, none⟩) A.gens.length c1); refine (HC1.out _ ?_).mono ?_; (go_split_ands; assumption); rintro e w1 ⟨p1, d1, rfl, ho1, hb⟩; have hb1 := hb)
      | (go_at_call 40; refine (HC2.out _ ?_).mono ?_; (go_split_ands; assumption); rintro e w2 ⟨p2, d2, rfl, ho2, hb⟩; have hb2 := hb)
      | (go_at_call_of 39 (Value.slice (some ⟨g3, 0, none⟩) A.gens.length c3); refine (HC3.out _ ?_).mono ?_; (go_split_ands; assumption); rintro e w3 ⟨p3, d3, rfl, ho3, hb⟩; have hb3 := hb))
  all_goals
    go_wp2_with fail
    go_ret
  have k2 : Below w.heap.size w w1 := by first | exact hb1 | exact below_drewOne.trans hb1
  have k3 := bnext k2 hb2
  have k4 := bnext k3 hb3
  have l1 := ho1.lt p1 rfl
  have l2 := ho2.lt p2 rfl
  have l3 := ho3.lt p3 rfl
  have m2 := hb2.size
  have m3 := hb3.size
  have m1 := k2.size
  exact ⟨_, _, rfl, ⟨_, _, _, _, _, _, _, rfl, pt_clone w3 A _ p1 d1 p2 d2 p3 d3 _ rfl (by omega) HLT.out HLL.out (own_base (own_below (own_below ho1 hb2) hb3) (by first | exact Nat.le_refl _ | (simp; done))) (own_base (own_below ho2 hb3) (by omega)) (own_base ho3 (by omega)) (by omega) (by omega) (by omega), rfl⟩, below_alloc k4 _⟩
end Go.Proofs.YtmmbopaieffgeaaDoor
