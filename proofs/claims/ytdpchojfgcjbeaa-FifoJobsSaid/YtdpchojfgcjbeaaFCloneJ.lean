/- The library's slices.Clone of entries of a queue of jobs; no condition but those that each row names. -/
import Derived.Test.YtdpchojfgcjbeaaFDelete
import Derived.Test.YtdpchojfgcjbeaaFPushJ
namespace Go.Proofs.Ytdpchojfgcjbeaa
open Go.RowKit

def ClonePost_J (w : World) (l : List (Value × Int)) (e : Ending) (w' : World) : Prop :=
  ∃ p cap, e = .returned (.slice p l.length cap) ∧ w'.ownsRow w.heap.size ET_J 5 (.slice p l.length cap) l.length (flat l) ∧ Below w.heap.size w w'

set_option maxHeartbeats 1000000 in
set_option maxRecDepth 100000 in
theorem clone_J (w : World) (B : Nat) (l : List (Value × Int)) (hw : Wide 4 l) (h4 : l.length ≤ 4096) (s : Value) (ho : w.ownsRow B ET_J 5 s l.length (flat l)) :
    Calls Try.prog 59 #[s] w (ClonePost_J w l) := by
  obtain ⟨i0, hi, hz0, hz1, hz2⟩ := info_parts Try.inf108
  have hfl := flat_len hw
  have hone := flat_one_cell hw
  rcases ho.2 with ⟨rfl, h0⟩ | ⟨g, cap, cur, rfl, hB, hg, hn, hm, hs, ht⟩
  · have hl0 : l = [] := List.eq_nil_of_length_eq_zero h0
    subst hl0
    have hnil := fun w => Lib.run_eql_slice_nil (P := Try.prog) w 104 _ none 0 0 0 0 Try.underlying104
    clear ho hfl hone
    go_enter Try.func59, Try.ntmps59
    go_wp2_with fail
    go_ret
    exact ⟨_, _, rfl, World.ownsRow_nil _ _ _ _, Below.refl _ _⟩
  · have hlt := lt_of_block hg
    have hnil := fun w => Lib.run_eql_slice_nil (P := Try.prog) w 104 _ (some ⟨g, 0, none⟩) l.length cap 0 0 Try.underlying104
    have hs : ∀ j u, (flat l)[j]? = some u → w.cell? ⟨g, j, none⟩ = some u := fun j u hu => by
      have := ho.cellAt j (by have := (List.getElem?_eq_some_iff.1 hu).1; omega)
      rw [this]; exact hu
    have HS := Lib.hid hs
    have HFL := Lib.hid hfl
    have HONE := Lib.hid hone
    clear ho hs ht hg hfl hone
    go_enter Try.func59, Try.ntmps59
    go_wp2_with (at_builtin; refine wpList_append_own _ rfl _ _ 104 rfl w.heap.size 108 i0 (.agg #[.int .i64 0, .int .i64 0, .int .i64 0, .int .i64 0, .int .i64 0]) 5 40 Try.underlying104 hi hz0 hz1 hz2 rfl (by decide) (.slice (some ⟨w.heap.size, 0, none⟩) 0 0) 0 [] rfl (World.ownsRow_made _ _ 0 (Nat.le_refl _) (by simp [maxLen]) rfl) ⟨g, 0, none⟩ l.length cap (flat l) rfl HFL.out ?a1 HONE.out (by unfold maxLen; omega) (by omega) ?a2 ?_)
    case a1 =>
      intro j u hu
      rw [Addr.add_lit, Nat.zero_add]
      exact (World.cell?_alloc_lt _ _ ⟨g, j, none⟩ hlt).trans (HS.out j u hu)
    case a2 => simp
    intro v1 w1 hown1 hgrow1 _
    obtain ⟨p1, c1, rfl⟩ := own_slice hown1
    have hO := Lib.hid hown1
    have hG := Lib.hid hgrow1
    clear hown1 hgrow1
    go_wp2_with fail
    go_ret
    exact ⟨p1, c1, rfl, by simpa using hO.out, ((Below.refl w.heap.size w).alloc (Nat.le_refl _) _).grown hG.out (by simp) (fun k e => by simp [Value.ownBlock] at e; omega)⟩
end Go.Proofs.Ytdpchojfgcjbeaa
