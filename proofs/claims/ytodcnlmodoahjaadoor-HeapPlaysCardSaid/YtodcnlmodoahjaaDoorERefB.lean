/- The document's own Push, Drop and Move of a list of items; no condition but those that each row names. -/
import Derived.Test.YtodcnlmodoahjaaDoorERef
import Derived.Test.YtodcnlmodoahjaaDoorEOpsAt
import Derived.Deep.CutBlock
import Derived.Deep.CutRange
import Derived.Deep.DeepCutAuto
namespace Go.Proofs.YtodcnlmodoahjaaDoor
open Go.RowKit Hp

/-- What such a function answers: a list of its own, or the one that came. -/
def RPost (w : World) (v : Value) (L' : List (Int × Int)) (n : Int) (e : Ending) (w' : World) : Prop :=
  ∃ v', e = .returned (.tuple #[v', .int .i64 n]) ∧ Its w' v' L' ∧ Below w.heap.size w w' ∧ ∀ g, v'.ownBlock = some g → v.ownBlock = some g ∨ w.heap.size ≤ g
/-- Where an item goes. -/
def GoesAt (L : List (Int × Int)) (x : Int × Int) (k : Nat) : Prop := k ≤ L.length ∧ (∀ j (h : j < L.length), j < k → ahB kc_I L[j] x = true) ∧ ∀ (h : k < L.length), ahB kc_I L[k] x = false
def PushPost (w : World) (v : Value) (L : List (Int × Int)) (x : Int × Int) (e : Ending) (w' : World) : Prop := ∃ k, GoesAt L x k ∧ RPost w v (L.take k ++ x :: L.drop k) 0 e w'

theorem rpush_no (w : World) (v : Value) (L : List (Int × Int)) (h : Its w v L) (h4 : L.length ≤ 4096) (id key : Int) (i : Nat) (hi : FirstAt L id i) :
    Calls Tryd.prog 7 #[v, .int .i64 id, .int .i64 key] w (RPost w v L 1) := by
  have HP := Lib.hid (rplace_yes w v L h h4 id i hi)
  have H := Lib.hid h
  have hi0 : (0 : Int) ≤ (i : Int) := by omega
  clear h hi
  go_enter Tryd.func7, Tryd.ntmps7
  go_wp2_with fail
  refine HP.out.mono ?_
  rintro e w1 ⟨rfl, rfl⟩
  go_wp2_with fail
  go_ret2
  exact ⟨v, rfl, H.out, Below.refl _ _, fun g e => .inl e⟩
theorem rdrop_no (w : World) (v : Value) (L : List (Int × Int)) (h : Its w v L) (h4 : L.length ≤ 4096) (id : Int) (hno : ∀ e ∈ L, e.1 ≠ id) :
    Calls Tryd.prog 11 #[v, .int .i64 id] w (RPost w v L 50) := by
  have HP := Lib.hid (rplace_no w v L h h4 id hno)
  have H := Lib.hid h
  clear h hno
  go_enter Tryd.func11, Tryd.ntmps11
  go_wp2_with fail
  refine HP.out.mono ?_
  rintro e w1 ⟨rfl, rfl⟩
  go_wp2_with fail
  go_ret2
  exact ⟨v, rfl, H.out, Below.refl _ _, fun g e => .inl e⟩

/-- The parts of a row of items. -/
theorem src_head {w w1 : World} {L : List (Int × Int)} {g cap : Nat} (h : Its w (.slice (some ⟨g, 0, none⟩) L.length cap) L) (hb : Below w.heap.size w w1) (k : Nat) (hk : k ≤ L.length) : Src2 w1 (.slice (some ⟨g, 0, none⟩) k cap) k (cells2 enc_I (L.take k)) := by
  refine ⟨_, _, rfl, by rw [cells2_len, List.length_take, Nat.min_eq_left hk], fun j y hy => ⟨g, 0, rfl, ?_⟩⟩
  have hg := (h.lt g rfl).2
  have hj : j < k * 2 := by have := (List.getElem?_eq_some_iff.1 hy).1; rw [cells2_len, List.length_take, Nat.min_eq_left hk] at this; exact this
  rw [← cells2_take, List.getElem?_take, if_pos hj] at hy
  rw [Nat.zero_add]
  exact (hb.cell (p := ⟨g, j, none⟩) hg).trans ((h.cellAt j (by omega)).trans hy)
theorem src_tail {w w1 : World} {L : List (Int × Int)} {g cap : Nat} (h : Its w (.slice (some ⟨g, 0, none⟩) L.length cap) L) (hb : Below w.heap.size w w1) (k : Nat) (hk : k ≤ L.length) : Src2 w1 (.slice (some ⟨g, k * 2, none⟩) (L.length - k) (cap - k)) (L.length - k) (cells2 enc_I (L.drop k)) := by
  refine ⟨_, _, rfl, by rw [cells2_len, List.length_drop], fun j y hy => ⟨g, k * 2, rfl, ?_⟩⟩
  have hg := (h.lt g rfl).2
  have hj : j < (L.length - k) * 2 := by have := (List.getElem?_eq_some_iff.1 hy).1; rw [cells2_len, List.length_drop] at this; exact this
  rw [← cells2_drop, List.getElem?_drop] at hy
  exact (hb.cell (p := ⟨g, k * 2 + j, none⟩) hg).trans ((h.cellAt (k * 2 + j) (by omega)).trans hy)
theorem src_tail_if {w w1 : World} {L : List (Int × Int)} {g cap : Nat} (h : Its w (.slice (some ⟨g, 0, none⟩) L.length cap) L) (hn : L.length ≤ cap) (hb : Below w.heap.size w w1) (k : Nat) (hk : k ≤ L.length) : Src2 w1 (.slice (if cap = k then (some ⟨g, 0, none⟩ : Option Addr) else some ⟨g, k * 2, none⟩) (L.length - k) (cap - k)) (L.length - k) (cells2 enc_I (L.drop k)) := by
  by_cases e : cap = k
  · rw [if_pos e, show L.length - k = 0 by omega, List.drop_of_length_le (by omega)]
    exact ⟨_, _, rfl, rfl, fun j y hy => by simp [cells2] at hy⟩
  · rw [if_neg e]; exact src_tail h hb k hk
theorem src_none (w1 : World) (p : Option Addr) (c : Nat) : Src2 w1 (.slice p 0 c) 0 [] := ⟨p, c, rfl, rfl, fun j y hy => by simp at hy⟩
theorem src_one (w : World) (x : Int × Int) (t : TypeId) : Src2 (w.alloc (.cells #[.int .i64 x.1, .int .i64 x.2] t)) (.slice (some ⟨w.heap.size, 0, none⟩) 1 1) 1 [.int .i64 x.1, .int .i64 x.2] :=
  ⟨_, _, rfl, rfl, fun j y hy => ⟨_, _, rfl, by
    match j, hy with
    | 0, hy => simp at hy; subst hy; simp
    | 1, hy => simp at hy; subst hy; simp⟩⟩

set_option maxHeartbeats 2000000 in
set_option maxRecDepth 100000 in
theorem rdrop_yes (w : World) (v : Value) (L : List (Int × Int)) (h : Its w v L) (h4 : L.length ≤ 4096) (id : Int) (i : Nat) (hi : FirstAt L id i) :
    Calls Tryd.prog 11 #[v, .int .i64 id] w (RPost w v (L.eraseIdx i) 0) := by
  have HP := Lib.hid (rplace_yes w v L h h4 id i hi)
  obtain ⟨hil, _, _⟩ := hi
  obtain ⟨g0, cap, rfl, _, hg0⟩ := h.form (by omega)
  obtain ⟨_, _, _, hlc, _⟩ := row_of_own h
  have H := Lib.hid h
  have hi0 : ¬ (i : Int) < 0 := by omega
  have z3 : (i : Int) ≤ (cap : Int) := by omega
  have z4 : (i : Int) + 1 ≤ (L.length : Int) := by omega
  have z5 : (L.length : Int) ≤ (cap : Int) := by omega
  have z2 : (i : Int) + 1 ≤ 4096 := by omega
  clear h
  have fin : ∀ (w2 w3 : World) (p2 p3 : Option Addr) (c2 c3 : Nat), w.grownBy w2 (Value.slice none 0 0).ownBlock → (∀ g, (Value.slice p2 i c2).ownBlock = some g → (Value.slice none 0 0).ownBlock = some g ∨ w.heap.size ≤ g) →
      w3.ownsRow w.heap.size RT 2 (.slice p3 (i + (L.length - (i + 1))) c3) (i + (L.length - (i + 1))) (cells2 enc_I (L.take i) ++ cells2 enc_I (L.drop (i + 1))) → w2.grownBy w3 (Value.slice p2 i c2).ownBlock → (∀ g, (Value.slice p3 (i + (L.length - (i + 1))) c3).ownBlock = some g → (Value.slice p2 i c2).ownBlock = some g ∨ w2.heap.size ≤ g) →
      RPost w (.slice (some ⟨g0, 0, none⟩) L.length cap) (L.eraseIdx i) 0 (.returned (.tuple #[.slice p3 (i + (L.length - (i + 1))) c3, .int .i64 0])) w3 := by
    intro w2 w3 p2 p3 c2 c3 hg2 ha2 ho3 hg3 ha3
    have hb2 : Below w.heap.size w w2 := (Below.refl _ _).grown hg2 (Nat.le_refl _) (fun k e => by simp [Value.ownBlock] at e)
    have hf2 : ∀ g, (Value.slice p2 i c2).ownBlock = some g → w.heap.size ≤ g := fun g e => by rcases ha2 g e with h | h; simp [Value.ownBlock] at h; exact h
    have hb3 : Below w.heap.size w w3 := hb2.grown hg3 hb2.size (fun k e => hf2 k e)
    refine ⟨_, rfl, ?_, hb3, fun g e => .inr ?_⟩
    · have hlen : (L.eraseIdx i).length = i + (L.length - (i + 1)) := by rw [List.length_eraseIdx, if_pos hil]; omega
      have hel : cells2 enc_I (L.take i) ++ cells2 enc_I (L.drop (i + 1)) = cells2 enc_I (L.eraseIdx i) := by rw [List.eraseIdx_eq_take_drop_succ, cells2_append]
      rw [hel] at ho3
      unfold Its
      rw [hlen]
      exact own_base ho3 (Nat.zero_le _)
    · rcases ha3 g e with h | h
      · exact hf2 g h
      · exact Nat.le_trans hb2.size h
  have FIN := Lib.hid fin
  clear fin
  go_enter Tryd.func11, Tryd.ntmps11
  go_wp2_with fail
  refine HP.out.mono ?_
  rintro e w1 ⟨rfl, rfl⟩
  go_wp2_with (at_builtin; refine wpList_append_its rfl _ _ rfl w.heap.size (.slice none 0 0) 0 [] rfl (World.ownsRow_nil _ _ _ _) _ i (cells2 enc_I (L.take i)) rfl (src_head H.out (Below.refl _ _) i (by omega)) (cells2_one enc_I (fun _ => rfl) _) (by omega) (Nat.le_refl _) ?_)
  intro p2 c2 w2 ho2 hg2 ha2
  have hb2 : Below w.heap.size w w2 := (Below.refl _ _).grown hg2 (Nat.le_refl _) (fun k e => by simp [Value.ownBlock] at e)
  have HO2 := Lib.hid ho2
  have HB2 := Lib.hid hb2
  have HG2 := Lib.hid hg2
  have HA2 := Lib.hid ha2
  have hlc2 := hlc
  clear ho2 hg2 ha2 hb2
  go_wp2_with (at_builtin; refine wpList_append_its rfl _ _ rfl w.heap.size (.slice p2 i c2) i (cells2 enc_I (L.take i)) rfl HO2.out _ (L.length - (i + 1)) (cells2 enc_I (L.drop (i + 1))) rfl (src_tail_if H.out hlc HB2.out (i + 1) (by omega)) (cells2_one enc_I (fun _ => rfl) _) (by omega) HB2.out.size ?_)
  all_goals
    intro p3 c3 w3 ho3 hg3 ha3
    have HE := Lib.hid (FIN.out w2 w3 p2 p3 c2 c3 HG2.out HA2.out ho3 hg3 ha3)
    clear ho3 hg3 ha3
    go_wp2_with fail
    go_ret2
    exact HE.out
end Go.Proofs.YtodcnlmodoahjaaDoor
