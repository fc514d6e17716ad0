/- The library's slices.Clone of numbers and of bools: a row of its own with the same cells; asked: a slice with cells, of at most 4,096. -/
import Derived.Test.YtmmbopaieffgeaaDoorSPT
namespace Go.Proofs.YtmmbopaieffgeaaDoor
open Go.RowKit

def ClonePost (w : World) (n : Nat) (E : TypeId) (xs : List Value) (e : Ending) (w' : World) : Prop :=
  ∃ g cap, e = .returned (.slice (some ⟨g, 0, none⟩) n cap) ∧ w'.ownsRow w.heap.size E 1 (.slice (some ⟨g, 0, none⟩) n cap) n xs ∧ Below w.heap.size w w'

set_option maxHeartbeats 1000000 in
set_option maxRecDepth 100000 in
theorem clone_ints (w : World) (b1 o1 n cp : Nat) (l : List Int) (hn : l.length = n) (h1 : 1 ≤ n) (h2 : n ≤ 4096) (hs : ∀ j u, (ints l)[j]? = some u → w.cell? ⟨b1, o1 + j, none⟩ = some u) :
    Calls Tryd.prog 39 #[.slice (some ⟨b1, o1, none⟩) n cp] w (ClonePost w n 3 (ints l)) := by
  obtain ⟨i0, hi, hz0, hz1, hz2⟩ := info_parts Tryd.info3
  have e1 := ints_len l
  rw [hn] at e1
  have k1 : b1 < w.heap.size := cell_lt (hs 0 _ (ints_at (by omega)))
  have HS := Lib.hid hs
  have E1 := Lib.hid e1
  clear hs e1 hn
  have hnil := fun w => Lib.run_eql_slice_nil (P := Tryd.prog) w 27 _ (some ⟨b1, o1, none⟩) n cp 0 0 Tryd.underlying27
  go_enter Tryd.func39, Tryd.ntmps39
  go_wp2_with (at_builtin; refine wpList_append_lies _ rfl _ _ 27 rfl w.heap.size 3 i0 (.int .i64 0) 1 8 Tryd.underlying27 hi hz0 hz1 hz2 rfl (by decide) (.slice (some ⟨w.heap.size, 0, none⟩) 0 0) 0 [] rfl (World.ownsRow_made _ _ 0 (Nat.le_refl _) (by simp [maxLen]) rfl) ⟨b1, o1, none⟩ n cp (ints l) rfl (by rw [E1.out, Nat.mul_one]) ?a1 ints_one h1 (by unfold maxLen; omega) (by omega) ?a2 (w.heap.size + 1) (by simp) ?_)
  case a1 =>
    intro j u hu
    rw [addr_plus]
    exact (World.cell?_alloc_lt _ _ ⟨b1, o1 + j, none⟩ k1).trans (HS.out j u hu)
  case a2 => simp
  intro g1 c1 w1 hown1 hgrow1 hat1 hlt1
  have hO := Lib.hid hown1
  have hB := Lib.hid hgrow1
  clear hown1 hgrow1 hat1
  go_wp2_with fail
  go_ret
  exact ⟨g1, c1, by simp, by simpa using hO.out, ((Below.refl w.heap.size w).alloc (Nat.le_refl _) _).grown hB.out (by simp) (fun k e => by simp [Value.ownBlock] at e; omega)⟩

set_option maxHeartbeats 1000000 in
set_option maxRecDepth 100000 in
theorem clone_bools (w : World) (b1 o1 n cp : Nat) (l : List Bool) (hn : l.length = n) (h1 : 1 ≤ n) (h2 : n ≤ 4096) (hs : ∀ j u, (bools l)[j]? = some u → w.cell? ⟨b1, o1 + j, none⟩ = some u) :
    Calls Tryd.prog 40 #[.slice (some ⟨b1, o1, none⟩) n cp] w (ClonePost w n 4 (bools l)) := by
  obtain ⟨i0, hi, hz0, hz1, hz2⟩ := info_parts Tryd.info4
  have e1 := bools_len l
  rw [hn] at e1
  have k1 : b1 < w.heap.size := cell_lt (hs 0 _ (bools_at (by omega)))
  have HS := Lib.hid hs
  have E1 := Lib.hid e1
  clear hs e1 hn
  have hnil := fun w => Lib.run_eql_slice_nil (P := Tryd.prog) w 28 _ (some ⟨b1, o1, none⟩) n cp 0 0 Tryd.underlying28
  go_enter Tryd.func40, Tryd.ntmps40
  go_wp2_with (at_builtin; refine wpList_append_lies _ rfl _ _ 28 rfl w.heap.size 4 i0 (.bool false) 1 1 Tryd.underlying28 hi hz0 hz1 hz2 rfl (by decide) (.slice (some ⟨w.heap.size, 0, none⟩) 0 0) 0 [] rfl (World.ownsRow_made _ _ 0 (Nat.le_refl _) (by simp [maxLen]) rfl) ⟨b1, o1, none⟩ n cp (bools l) rfl (by rw [E1.out, Nat.mul_one]) ?a1 bools_one h1 (by unfold maxLen; omega) (by omega) ?a2 (w.heap.size + 1) (by simp) ?_)
  case a1 =>
    intro j u hu
    rw [addr_plus]
    exact (World.cell?_alloc_lt _ _ ⟨b1, o1 + j, none⟩ k1).trans (HS.out j u hu)
  case a2 => simp
  intro g1 c1 w1 hown1 hgrow1 hat1 hlt1
  have hO := Lib.hid hown1
  have hB := Lib.hid hgrow1
  clear hown1 hgrow1 hat1
  go_wp2_with fail
  go_ret
  exact ⟨g1, c1, by simp, by simpa using hO.out, ((Below.refl w.heap.size w).alloc (Nat.le_refl _) _).grown hB.out (by simp) (fun k e => by simp [Value.ownBlock] at e; omega)⟩
end Go.Proofs.YtmmbopaieffgeaaDoor
