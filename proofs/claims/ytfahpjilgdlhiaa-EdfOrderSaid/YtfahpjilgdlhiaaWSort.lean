/- slices.SortFunc of places by the closure that compares children: the places in their order; no condition but those that each row names. -/
import Derived.Test.YtfahpjilgdlhiaaWOrd
import Derived.Test.YtfahpjilgdlhiaaWPick
import Derived.Test.YtfahpjilgdlhiaaWShelf
import Derived.Sort.OwnSortedInts
namespace Go.Proofs.Ytfahpjilgdlhiaa
open Go.RowKit Go.Sort Edf

/-- A place as a value. -/
def encF {N : Nat} (x : Fin (N + 1)) : Value := .int .i64 ((x.val : Nat) : Int)
def cfF {N : Nat} (c : Nat → Tri) (x y : Fin (N + 1)) : Int := cmpT c x.val y.val
theorem ltF {N : Nat} {c : Nat → Tri} (x y : Fin (N + 1)) : ltOf (cfF c) x y = decide (Ahead c x.val y.val) := by
  unfold ltOf cfF
  exact decide_eq_decide.2 cmpT_neg
theorem swoF {N : Nat} (c : Nat → Tri) : SWO (ltOf (cfF (N := N) c)) where
  irrefl x := by rw [ltF]; exact decide_eq_false ahead_irrefl
  trans x y z h1 h2 := by
    rw [ltF] at *
    exact decide_eq_true (ahead_trans (of_decide_eq_true h1) (of_decide_eq_true h2))
  ntrans x y z h1 h2 := by
    rw [ltF] at *
    refine decide_eq_false fun h => ?_
    have k1 := of_decide_eq_false h1
    have k2 := of_decide_eq_false h2
    rcases ahead_neg k1 with e | e
    · rw [e] at h; exact k2 h
    · exact k2 (ahead_trans e h)
theorem totF {N : Nat} {c : Nat → Tri} (x y : Fin (N + 1)) (h1 : ltOf (cfF c) x y = false) (h2 : ltOf (cfF c) y x = false) : x = y := by
  rw [ltF] at *
  rcases ahead_neg (of_decide_eq_false h1) with e | e
  · exact Fin.ext e
  · exact absurd e (of_decide_eq_false h2)
theorem putRow_fin {N : Nat} (w : World) (g : Nat) (d : List (Fin (N + 1))) : putRow encF w g 0 d.toArray = putRow (Value.int .i64) w g 0 (d.map fun x => ((x.val : Nat) : Int)).toArray := by
  have e : putCells encF 0 d.toArray = putCells (Value.int .i64) 0 (d.map fun x => ((x.val : Nat) : Int)).toArray := by
    funext cur
    unfold putCells
    congr 1
    funext k x
    by_cases h : k < d.length
    · have h1 : (0 ≤ k ∧ k < 0 + d.toArray.size) := by simp; exact h
      have h2 : (0 ≤ k ∧ k < 0 + (d.map fun x => ((x.val : Nat) : Int)).toArray.size) := by simp; exact h
      rw [if_pos h1, if_pos h2]
      simp [h, encF]
    · have h1 : ¬ (0 ≤ k ∧ k < 0 + d.toArray.size) := by simp; omega
      have h2 : ¬ (0 ≤ k ∧ k < 0 + (d.map fun x => ((x.val : Nat) : Int)).toArray.size) := by simp; omega
      rw [if_neg h1, if_neg h2]
  unfold putRow
  rw [e]
theorem sort_keepsF {N : Nat} (w : World) (g n : Nat) (d : Array (Fin (N + 1))) (os : Array Obj) : Keeps (fun x => x = g) w (sortWorld encF w g 0 n d os) := by
  refine ⟨rfl, rfl, rfl, ?_, fun b hb hne => ?_⟩
  · unfold sortWorld; simp [Sort.ahead]
  · unfold sortWorld
    rw [heap_grow_old _ _ (by simpa [Sort.ahead] using hb)]
    unfold putRow mapBlock
    simp only [Array.getElem?_modify]
    rw [if_neg (fun e => hne e.symm)]
    rfl
/-- What the sort leaves. -/
def SortPost (w0 : World) (g cap : Nat) (Q : List Nat) (e : Ending) (w' : World) : Prop := e = .returned (.tuple #[]) ∧ NumsO w0.heap.size w' (.slice (some ⟨g, 0, none⟩) Q.length cap) Q.length (fnL Q) ∧ Below w0.heap.size w0 w'
theorem sort_any (w0 w : World) (v : Value) (N : Nat) (c : Nat → Tri) (bx g cap : Nat) (P Q : List Nat) (hb0 : Below w0.heap.size w0 w) (hT : Tris w0 v (N + 1) c) (hbx : Boxed w bx v) (hbl : bx < w.heap.size) (hne : bx ≠ g)
    (ho : NumsO w0.heap.size w (.slice (some ⟨g, 0, none⟩) P.length cap) P.length (fnL P)) (hP : ∀ x ∈ P, x < N + 1) (h4 : P.length < 4611686018427387904) (hQ : Q.Perm P) (hs : Q.Pairwise (Ahead c)) :
    Calls Try.prog 35 #[.slice (some ⟨g, 0, none⟩) P.length cap, cmpF bx] w (SortPost w0 g cap Q) := by
  obtain ⟨PF, hPF⟩ : ∃ PF : List (Fin (N + 1)), PF.map (·.val) = P := ⟨P.pmap (fun x h => ⟨x, h⟩) hP, by rw [List.map_pmap]; simp⟩
  obtain ⟨hgB, hgl⟩ := World.ownsRow.lt ho g rfl
  have eg : ∀ args w, (callFunc 46 args).run Try.prog w = .ok (.enter 46 args) w := enters_of Try.func46 (by kernel_rfl) rfl
  have hkw := fun m (dk : Array (Fin (N + 1))) os => sort_keepsF w g m dk os
  have hbw := fun m (dk : Array (Fin (N + 1))) os => below_keeps hb0 (hkw m dk os) (fun b e => by have e2 : b = g := e; omega)
  have hcmp : CmpLays1 Try.prog 46 #[.pointer (some ⟨bx, 0, none⟩)] encF (cfF (N := N) c) g 0 PF.toArray.size w := fun m os dk _ x y => by
    have hbxw : Boxed (sortWorld encF w g 0 m dk os) bx v := ((hkw m dk os).cell (p := ⟨bx, 0, none⟩) hbl hne).trans hbx
    have h := closure_any (sortWorld encF w g 0 m dk os) bx v (N + 1) c hbxw (hT.below (hbw m dk os)) x.val y.val x.isLt y.isLt
    exact h.mono fun _ _ ⟨he, o, hw⟩ => ⟨he, 1, #[o], by rw [hw, alloc_eq_grow]; rfl⟩
  have hlen : PF.length = P.length := by rw [← hPF, List.length_map]
  have hH : Holds encF w g 0 PF.toArray := fun j hj => by
    have hj' : j < P.length := by rw [← hlen]; simpa using hj
    refine ⟨?_, World.ownsRow.frozenAt ho (0 + j)⟩
    rw [World.ownsRow.cellAt ho (0 + j) (by omega), Nat.zero_add]
    refine (lst_at hj').trans ?_
    rw [fnL_at hj']
    have e : PF.toArray[j]! = PF[j]'(by omega) := by simp [show j < PF.length by omega]
    rw [e]
    unfold encF
    have e3 : P[j] = (PF[j]'(by omega)).val := by
      have : P[j]? = (PF.map (·.val))[j]? := by rw [hPF]
      rw [List.getElem?_eq_getElem hj', List.getElem?_map, List.getElem?_eq_getElem (by omega)] at this
      simpa using this
    rw [e3]
  have hcon := Any.slices_SortFunc_total Try.laysSort (encF (N := N)) (fun _ => rfl) (cfF c) (swoF c) 46 #[.pointer (some ⟨bx, 0, none⟩)] g 0 cap PF.toArray w eg hcmp hH hgl (by simpa [hlen] using h4) totF
  have hsz : PF.toArray.size = P.length := by simpa using hlen
  rw [hsz] at hcon
  refine hcon.mono fun e w' ⟨he, n, os, hw⟩ => ⟨he, ?_, ?_⟩
  · have hperm := List.mergeSort_perm PF (fun x y => !(ltOf (cfF c)) y x)
    have hpair := List.pairwise_mergeSort (le := fun x y : Fin (N + 1) => !(ltOf (cfF c)) y x)
      (fun a b d h1 h2 => by
        simp only [Bool.not_eq_true'] at *
        exact (swoF c).ntrans _ _ _ h2 h1)
      (fun a b => by
        rw [ltF, ltF]
        by_cases h : Ahead c b.val a.val
        · have : ¬ Ahead c a.val b.val := fun k => ahead_irrefl (ahead_trans h k)
          simp [this]
        · simp [h]) PF
    have hM : (PF.mergeSort fun x y => !(ltOf (cfF c)) y x).map (·.val) = Q := by
      refine ord_same (c := c) ?_ (hs.imp fun h => .inr h) ?_
      · rw [List.pairwise_map]
        refine hpair.imp fun {a b} hab => ?_
        rw [ltF] at hab
        have : ¬ Ahead c b.val a.val := by simpa using hab
        rcases ahead_neg this with e | e
        · exact .inl e.symm
        · exact .inr e
      · have := hperm.map (fun x : Fin (N + 1) => x.val)
        rw [hPF] at this
        exact this.trans hQ.symm
    have hw2 : w' = grow (putRow (Value.int .i64) (Sort.ahead w n) g 0 (Q.map fun k => ((k : Nat) : Int)).toArray) os := by
      rw [hw]
      show grow (putRow encF (Sort.ahead w n) g 0 (PF.mergeSort fun x y => !(ltOf (cfF c)) y x).toArray) os = _
      rw [putRow_fin, ← hM, List.map_map]
      rfl
    have hor := ho
    obtain ⟨_, hx⟩ := hor
    rcases hx with ⟨h0, _⟩ | ⟨g', cap', cur, hv, hB, hc, h1, h2, h3, _⟩
    · cases h0
    · cases hv
      have hQl : Q.length = P.length := hQ.length_eq
      have := ownsRow_sortedI (w := w) (n := n) (os := os) (ss := P.map fun k => ((k : Nat) : Int)) (ts := Q.map fun k => ((k : Nat) : Int)) (by simp [hQl]) hB hc (by simpa using h1) h2 h3
      rw [← hw2, List.length_map, ← hQl] at this
      show w'.ownsRow _ _ 1 _ _ (numL (fnL Q) Q.length)
      rw [numL_fn]
      rw [List.map_map] at this
      exact this
  · rw [hw]; exact hbw n _ os
end Go.Proofs.Ytfahpjilgdlhiaa
