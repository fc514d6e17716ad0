/- The document's own calendar: Drop, Put, Due; no condition but those that each row names. -/
import Derived.Test.YtknhjbfhkfngeaaDoorNRef
import Derived.Deep.CutBlock
import Derived.Deep.CutRange
import Derived.Deep.DeepCutAuto
namespace Go.Proofs.YtknhjbfhkfngeaaDoor
open Go.RowKit Cal

/-- What such a function answers: a list of its own, or the one that came. -/
def RPost (w : World) (v : Value) (L' : List Pr) (n : Int) (e : Ending) (w' : World) : Prop :=
  ∃ v', e = .returned (.tuple #[v', .int .i64 n]) ∧ Its w' v' L' ∧ Below w.heap.size w w' ∧ ∀ g, v'.ownBlock = some g → v.ownBlock = some g ∨ w.heap.size ≤ g
def remE (id : Int) (L : List Pr) : Int := match findI id L with
  | none => 50
  | some _ => 0
set_option maxHeartbeats 2000000 in
set_option maxRecDepth 100000 in
theorem rdrop_any (w : World) (v : Value) (L : List Pr) (h : Its w v L) (h4 : L.length ≤ 4096) (id : Int) :
    Calls Tryd.prog 9 #[v, .int .i64 id] w (RPost w v (remL id L) (remE id L)) := by
  have HP := Lib.hid (rfind_any w v L h h4 id)
  unfold remL remE
  cases hf : findI id L with
  | none =>
    rw [hf] at HP
    have HP := Lib.hid (show Calls Tryd.prog 15 #[v, .int .i64 id] w fun e w' => e = .returned (.int .i64 (-1)) ∧ w = w' from HP.out)
    have H := Lib.hid h
    clear h hf
    go_enter Tryd.func9, Tryd.ntmps9
    go_wp2_with fail
    refine HP.out.mono ?_
    rintro e w1 ⟨rfl, rfl⟩
    go_wp2_with fail
    go_ret2
    exact ⟨v, rfl, H.out, Below.refl _ _, fun g e => .inl e⟩
  | some i =>
    rw [hf] at HP
    have HP := Lib.hid (show Calls Tryd.prog 15 #[v, .int .i64 id] w fun e w' => e = .returned (.int .i64 (i : Nat)) ∧ w = w' from HP.out)
    obtain ⟨hil, _, _⟩ := findI_some hf
    obtain ⟨g0, cap, rfl, hlc, _, hg0⟩ := own_block2 h (by omega)
    have H := Lib.hid h
    have hi0 : ¬ (i : Int) < 0 := by omega
    have z3 : (i : Int) ≤ (cap : Int) := by omega
    have z4 : (i : Int) + 1 ≤ (L.length : Int) := by omega
    have z5 : (L.length : Int) ≤ (cap : Int) := by omega
    have z2 : (i : Int) + 1 ≤ 4096 := by omega
    clear h hf
    have fin : ∀ (w2 w3 : World) (p2 p3 : Option Addr) (c2 c3 : Nat), w.grownBy w2 (Value.slice none 0 0).ownBlock → (∀ g, (Value.slice p2 i c2).ownBlock = some g → (Value.slice none 0 0).ownBlock = some g ∨ w.heap.size ≤ g) →
        w3.ownsRow w.heap.size RT 2 (.slice p3 (i + (L.length - (i + 1))) c3) (i + (L.length - (i + 1))) (prL (L.take i) ++ prL (L.drop (i + 1))) → w2.grownBy w3 (Value.slice p2 i c2).ownBlock → (∀ g, (Value.slice p3 (i + (L.length - (i + 1))) c3).ownBlock = some g → (Value.slice p2 i c2).ownBlock = some g ∨ w2.heap.size ≤ g) →
        RPost w (.slice (some ⟨g0, 0, none⟩) L.length cap) (L.take i ++ L.drop (i + 1)) 0 (.returned (.tuple #[.slice p3 (i + (L.length - (i + 1))) c3, .int .i64 0])) w3 := by
      intro w2 w3 p2 p3 c2 c3 hg2 ha2 ho3 hg3 ha3
      have hb2 : Below w.heap.size w w2 := (Below.refl _ _).grown hg2 (Nat.le_refl _) (fun k e => by simp [Value.ownBlock] at e)
      have hf2 : ∀ g, (Value.slice p2 i c2).ownBlock = some g → w.heap.size ≤ g := fun g e => by rcases ha2 g e with h | h; simp [Value.ownBlock] at h; exact h
      have hb3 : Below w.heap.size w w3 := hb2.grown hg3 hb2.size (fun k e => hf2 k e)
      refine ⟨_, rfl, ?_, hb3, fun g e => .inr ?_⟩
      · have hlen : (L.take i ++ L.drop (i + 1)).length = i + (L.length - (i + 1)) := by rw [List.length_append, List.length_take, List.length_drop, Nat.min_eq_left (by omega)]
        rw [← prL_append] at ho3
        unfold Its
        rw [hlen]
        exact own_base2 ho3 (Nat.zero_le _)
      · rcases ha3 g e with h | h
        · exact hf2 g h
        · exact Nat.le_trans hb2.size h
    have FIN := Lib.hid fin
    clear fin
    go_enter Tryd.func9, Tryd.ntmps9
    go_wp2_with fail
    refine HP.out.mono ?_
    rintro e w1 ⟨rfl, rfl⟩
    go_wp2_with (at_builtin; refine wpList_append_its rfl _ _ rfl w.heap.size (.slice none 0 0) 0 [] rfl (World.ownsRow_nil _ _ _ _) _ i (prL (L.take i)) rfl (src_head H.out (Below.refl _ _) i (by omega) cap) (prL_one _) (by omega) (Nat.le_refl _) ?_)
    intro p2 c2 w2 ho2 hg2 ha2
    have hb2 : Below w.heap.size w w2 := (Below.refl _ _).grown hg2 (Nat.le_refl _) (fun k e => by simp [Value.ownBlock] at e)
    have HO2 := Lib.hid (show w2.ownsRow w.heap.size RT 2 (.slice p2 i c2) i (prL (L.take i)) from by
      try rw [Nat.zero_add] at ho2
      exact ho2)
    have HB2 := Lib.hid hb2
    have HG2 := Lib.hid hg2
    have HA2 := Lib.hid (show ∀ g, (Value.slice p2 i c2).ownBlock = some g → (Value.slice none 0 0).ownBlock = some g ∨ w.heap.size ≤ g from by
      try rw [Nat.zero_add] at ha2
      exact ha2)
    have hlc2 := hlc
    clear ho2 hg2 ha2 hb2
    go_wp2_with (at_builtin; refine wpList_append_its rfl _ _ rfl w.heap.size (.slice p2 i c2) i (prL (L.take i)) rfl HO2.out _ (L.length - (i + 1)) (prL (L.drop (i + 1))) rfl (src_tail_if H.out hlc HB2.out (i + 1) (by omega)) (prL_one _) (by omega) HB2.out.size ?_)
    all_goals
      intro p3 c3 w3 ho3 hg3 ha3
      have HE := Lib.hid (FIN.out w2 w3 p2 p3 c2 c3 HG2.out HA2.out ho3 hg3 ha3)
      clear ho3 hg3 ha3
      go_wp2_with fail
      go_ret2
      exact HE.out
end Go.Proofs.YtknhjbfhkfngeaaDoor
