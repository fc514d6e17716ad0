/- The document's own Push of an item that is not there, and Move; no condition but those that each row names. -/
import Derived.Test.YtodcnlmodoahjaaDoorERefB
namespace Go.Proofs.YtodcnlmodoahjaaDoor
open Go.RowKit Hp

/-- What the three appends leave. -/
theorem push_fin {w w1 w2 w3 : World} {v : Value} {L : List (Int × Int)} {x : Int × Int} {k : Nat} {o : Obj} {p1 p2 p3 : Option Addr} {c1 c2 c3 : Nat} (hk : GoesAt L x k)
    (hg1 : w.grownBy w1 (Value.slice none 0 0).ownBlock) (ha1 : ∀ g, (Value.slice p1 k c1).ownBlock = some g → (Value.slice none 0 0).ownBlock = some g ∨ w.heap.size ≤ g)
    (hg2 : (w1.alloc o).grownBy w2 (Value.slice p1 k c1).ownBlock) (ha2 : ∀ g, (Value.slice p2 (k + 1) c2).ownBlock = some g → (Value.slice p1 k c1).ownBlock = some g ∨ w1.heap.size + 1 ≤ g)
    (ho3 : w3.ownsRow w.heap.size RT 2 (.slice p3 (k + 1 + (L.length - k)) c3) (k + 1 + (L.length - k)) (cells2 enc_I (L.take k) ++ (.int .i64 x.1 :: .int .i64 x.2 :: cells2 enc_I (L.drop k))))
    (hg3 : w2.grownBy w3 (Value.slice p2 (k + 1) c2).ownBlock) (ha3 : ∀ g, (Value.slice p3 (k + 1 + (L.length - k)) c3).ownBlock = some g → (Value.slice p2 (k + 1) c2).ownBlock = some g ∨ w2.heap.size ≤ g) :
    PushPost w v L x (.returned (.tuple #[.slice p3 (k + 1 + (L.length - k)) c3, .int .i64 0])) w3 := by
  have hb1 : Below w.heap.size w w1 := (Below.refl _ _).grown hg1 (Nat.le_refl _) (fun k e => by simp [Value.ownBlock] at e)
  have hf1 : ∀ g, (Value.slice p1 k c1).ownBlock = some g → w.heap.size ≤ g := fun g e => by rcases ha1 g e with h | h; simp [Value.ownBlock] at h; exact h
  have hba : Below w.heap.size w (w1.alloc o) := hb1.alloc hb1.size o
  have hb2 : Below w.heap.size w w2 := hba.grown hg2 hba.size (fun k e => hf1 k e)
  have hf2 : ∀ g, (Value.slice p2 (k + 1) c2).ownBlock = some g → w.heap.size ≤ g := fun g e => by
    rcases ha2 g e with h | h
    · exact hf1 g h
    · have := hb1.size; omega
  have hb3 : Below w.heap.size w w3 := hb2.grown hg3 hb2.size (fun k e => hf2 k e)
  refine ⟨k, hk, _, rfl, ?_, hb3, fun g e => .inr ?_⟩
  · have hlen : (L.take k ++ x :: L.drop k).length = k + 1 + (L.length - k) := by have := hk.1; simp; omega
    have hel : cells2 enc_I (L.take k) ++ (.int .i64 x.1 :: .int .i64 x.2 :: cells2 enc_I (L.drop k)) = cells2 enc_I (L.take k ++ x :: L.drop k) := by rw [cells2_append]; rfl
    rw [hel] at ho3
    unfold Its
    rw [hlen]
    exact own_base ho3 (Nat.zero_le _)
  · rcases ha3 g e with h | h
    · exact hf2 g h
    · exact Nat.le_trans hb2.size h

set_option maxHeartbeats 2000000 in
set_option maxRecDepth 100000 in
theorem rpush_own (w : World) (g0 cap : Nat) (L : List (Int × Int)) (h : Its w (.slice (some ⟨g0, 0, none⟩) L.length cap) L) (h4 : L.length ≤ 4096) (id key : Int) (hno : ∀ e ∈ L, e.1 ≠ id) :
    Calls Tryd.prog 7 #[.slice (some ⟨g0, 0, none⟩) L.length cap, .int .i64 id, .int .i64 key] w (PushPost w (.slice (some ⟨g0, 0, none⟩) L.length cap) L (id, key)) := by
  have HP := Lib.hid (rplace_no w _ L h h4 id hno)
  obtain ⟨_, _, _, hlc, _⟩ := row_of_own h
  have H := Lib.hid h
  have HC := Lib.hid (fun j (hj : j < L.length) => h.cells j hj)
  have z5 : (L.length : Int) ≤ (cap : Int) := by omega
  clear h hno
  go_enter Tryd.func7, Tryd.ntmps7
  go_wp2_with fail
  refine HP.out.mono ?_
  rintro e w1 ⟨rfl, rfl⟩
  go_upto_block 0 with fail
  go_cut [8] (fun av wx => wx = w ∧ ∃ k : Nat, av = .int .i64 k ∧ Hid (GoesAt L (id, key) k))
  case first =>
    go_wp2_with fail
    go_loop [8] (fun iv => ∃ k : Nat, iv = .int .i64 k ∧ k ≤ L.length ∧ Hid (∀ j (h : j < L.length), j < k → ahB kc_I L[j] (id, key) = true)) (fun iv => L.length - (intOf iv).toNat)
    case atStart => exact ⟨0, rfl, Nat.zero_le _, Lib.hid fun j _ hj => by omega⟩
    case round =>
      obtain ⟨k, rfl, hk, HA⟩ := hrel
      by_cases hlt : k < L.length
      · have hlt' : (k : Int) < (L.length : Int) := by omega
        obtain ⟨c0, c1⟩ := HC.out k hlt
        have HI := Lib.hid (ah_iff (x := L[k]) (y := (id, key)))
        have HS := fun (h : ahB kc_I L[k] (id, key) = true) => Lib.hid (show ∀ j (h : j < L.length), j < k + 1 → ahB kc_I L[j] (id, key) = true from fun j hj hjk => by
          by_cases e : j = k
          · subst e; exact h
          · exact HA.out j hj (by omega))
        have HE := fun (h : ahB kc_I L[k] (id, key) = false) => Lib.hid (show GoesAt L (id, key) k from ⟨hk, HA.out, fun _ => h⟩)
        generalize L[k] = x at c0 c1 HI HS HE
        obtain ⟨xi, xk⟩ := x
        rcases Int.lt_trichotomy xk key with h1 | h1 | h1
        · have HS1 := HS (HI.out.2 (.inl h1))
          clear HS HE
          go_wp2_with fail
          go_round
          case rel => exact ⟨k + 1, by go_num, by omega, HS1⟩
          case measure => simp [intOf]; omega
        · subst h1
          by_cases h2 : xi < id
          · have HS1 := HS (HI.out.2 (.inr ⟨rfl, h2⟩))
            clear HS HE
            go_wp2_with fail
            go_round
            case rel => exact ⟨k + 1, by go_num, by omega, HS1⟩
            case measure => simp [intOf]; omega
          · have HE1 := HE (by
              rcases Bool.eq_false_or_eq_true (ahB kc_I (xi, xk) (id, xk)) with e | e
              · have := HI.out.1 e; omega
              · exact e)
            have y3 : decide (xi < id) = false := decide_eq_false h2
            clear HS HE h2
            go_wp2_with fail
            go_meet
            exact ⟨rfl, k, rfl, HE1⟩
        · have HE1 := HE (by
            rcases Bool.eq_false_or_eq_true (ahB kc_I (xi, xk) (id, key)) with e | e
            · have := HI.out.1 e; omega
            · exact e)
          have y1 : decide (xk < key) = false := decide_eq_false (by omega)
          have y2 : (xk == key) = false := by simp; omega
          clear HS HE
          go_wp2_with fail
          go_meet
          exact ⟨rfl, k, rfl, HE1⟩
      · have hg3 : decide (k < L.length) = false := decide_eq_false hlt
        have HE1 := Lib.hid (show GoesAt L (id, key) k from ⟨hk, HA.out, fun h => absurd h hlt⟩)
        clear hlt
        go_wp2_with fail
        go_meet
        exact ⟨rfl, k, rfl, HE1⟩
  case rest =>
    obtain ⟨rfl, k, rfl, HK⟩ := hcut
    have hkl : k ≤ L.length := HK.out.1
    have z1 : (k : Int) ≤ (cap : Int) := by omega
    have z2 : (k : Int) ≤ (L.length : Int) := by omega
    go_wp2_with (at_builtin; refine wpList_append_its rfl _ _ rfl wc.heap.size (.slice none 0 0) 0 [] rfl (World.ownsRow_nil _ _ _ _) _ k (cells2 enc_I (L.take k)) rfl (src_head H.out (Below.refl _ _) k hkl) (cells2_one enc_I (fun _ => rfl) _) (by omega) (Nat.le_refl _) ?_)
    intro p1 c1 w1 ho1 hg1 ha1
    have hb1 : Below wc.heap.size wc w1 := (Below.refl _ _).grown hg1 (Nat.le_refl _) (fun k e => by simp [Value.ownBlock] at e)
    have HO1 := Lib.hid ho1
    have HB1 := Lib.hid hb1
    have HG1 := Lib.hid hg1
    have HA1 := Lib.hid ha1
    clear ho1 hg1 ha1 hb1
    go_wp2_with (at_builtin; refine wpList_append_its rfl _ _ rfl wc.heap.size (.slice p1 k c1) k (cells2 enc_I (L.take k)) rfl (HO1.out.kept (World.grownBy_alloc _ _ none) (Classical.em _)) _ 1 [.int .i64 id, .int .i64 key] rfl (src_one w1 (id, key) _) (by intro u hu; simp at hu; rcases hu with rfl | rfl <;> rfl) (by omega) (by have := HB1.out.size; simp; omega) ?_)
    intro p2 c2 w2 ho2 hg2 ha2
    have hb2 : Below wc.heap.size wc w2 := (HB1.out.alloc HB1.out.size _).grown hg2 (by have := HB1.out.size; simp; omega) (fun g e => by
      rcases HA1.out g e with h | h
      · simp [Value.ownBlock] at h
      · exact h)
    have HO2 := Lib.hid ho2
    have HB2 := Lib.hid hb2
    have HG2 := Lib.hid hg2
    have HA2 := Lib.hid ha2
    clear ho2 hg2 ha2 hb2
    go_wp2_with (at_builtin; refine wpList_append_its rfl _ _ rfl wc.heap.size (.slice p2 (k + 1) c2) (k + 1) (cells2 enc_I (L.take k) ++ [.int .i64 id, .int .i64 key]) rfl HO2.out _ (L.length - k) (cells2 enc_I (L.drop k)) rfl (src_tail_if H.out hlc HB2.out k hkl) (cells2_one enc_I (fun _ => rfl) _) (by omega) HB2.out.size ?_)
    all_goals
      intro p3 c3 w3 ho3 hg3 ha3
      have HE := Lib.hid (push_fin (v := .slice (some ⟨g0, 0, none⟩) L.length cap) HK.out HG1.out HA1.out HG2.out HA2.out ho3 hg3 ha3)
      clear ho3 hg3 ha3
      go_wp2_with fail
      go_ret2
      exact HE.out
set_option maxHeartbeats 2000000 in
set_option maxRecDepth 100000 in
theorem rpush_nil (w : World) (id key : Int) :
    Calls Tryd.prog 7 #[.slice none 0 0, .int .i64 id, .int .i64 key] w (PushPost w (.slice none 0 0) [] (id, key)) := by
  have HP := Lib.hid (rplace_no w _ [] (World.ownsRow_nil _ _ _ _) (by simp) id (fun e he => by simp at he))
  have HK := Lib.hid (show GoesAt [] (id, key) 0 from ⟨Nat.le_refl _, fun j h => by simp at h, fun h => by simp at h⟩)
  go_enter Tryd.func7, Tryd.ntmps7
  go_wp2_with fail
  refine HP.out.mono ?_
  rintro e w1 ⟨rfl, rfl⟩
  go_wp2_with fail
  go_loop [8] (fun iv => iv = .int .i64 0) (fun _ => 0)
  case atStart => rfl
  case round =>
    obtain rfl := hrel
    go_wp2_with (at_builtin; refine wpList_append_its rfl _ _ rfl w.heap.size (.slice none 0 0) 0 [] rfl (World.ownsRow_nil _ _ _ _) _ 0 [] rfl (src_none _ _ _) (by simp) (by omega) (Nat.le_refl _) ?_)
    intro p1 c1 w1 ho1 hg1 ha1
    have hb1 : Below w.heap.size w w1 := (Below.refl _ _).grown hg1 (Nat.le_refl _) (fun k e => by simp [Value.ownBlock] at e)
    have HO1 := Lib.hid ho1
    have HB1 := Lib.hid hb1
    have HG1 := Lib.hid hg1
    have HA1 := Lib.hid ha1
    clear ho1 hg1 ha1 hb1
    go_wp2_with (at_builtin; refine wpList_append_its rfl _ _ rfl w.heap.size (.slice p1 0 c1) 0 [] rfl (HO1.out.kept (World.grownBy_alloc _ _ none) (Classical.em _)) _ 1 [.int .i64 id, .int .i64 key] rfl (src_one w1 (id, key) _) (by intro u hu; simp at hu; rcases hu with rfl | rfl <;> rfl) (by omega) (by have := HB1.out.size; simp; omega) ?_)
    intro p2 c2 w2 ho2 hg2 ha2
    have hb2 : Below w.heap.size w w2 := (HB1.out.alloc HB1.out.size _).grown hg2 (by have := HB1.out.size; simp; omega) (fun g e => by
      rcases HA1.out g e with h | h
      · simp [Value.ownBlock] at h
      · exact h)
    have HO2 := Lib.hid ho2
    have HB2 := Lib.hid hb2
    have HG2 := Lib.hid hg2
    have HA2 := Lib.hid ha2
    clear ho2 hg2 ha2 hb2
    go_wp2_with (at_builtin; refine wpList_append_its rfl _ _ rfl w.heap.size (.slice p2 1 c2) 1 [.int .i64 id, .int .i64 key] rfl HO2.out _ 0 [] rfl (src_none _ _ _) (by simp) (by omega) HB2.out.size ?_)
    all_goals
      intro p3 c3 w3 ho3 hg3 ha3
      have HE := Lib.hid (push_fin (L := []) (k := 0) (x := (id, key)) (v := .slice none 0 0) HK.out HG1.out HA1.out HG2.out HA2.out ho3 hg3 ha3)
      clear ho3 hg3 ha3
      go_wp2_with fail
      go_ret2
      exact HE.out
theorem rpush_yes (w : World) (v : Value) (L : List (Int × Int)) (h : Its w v L) (h4 : L.length ≤ 4096) (id key : Int) (hno : ∀ e ∈ L, e.1 ≠ id) :
    Calls Tryd.prog 7 #[v, .int .i64 id, .int .i64 key] w (PushPost w v L (id, key)) := by
  have h' := h
  rcases h.2 with ⟨rfl, h2⟩ | ⟨g, cap, cur, rfl, _⟩
  · have hl : L.length = 0 := by
      have := h.1
      first
        | exact h2
        | (rw [h2] at this; rw [cells2_len] at this; omega)
    obtain rfl := List.eq_nil_of_length_eq_zero hl
    exact rpush_nil w id key
  · exact rpush_own w g cap L h' h4 id key hno
set_option maxHeartbeats 1000000 in
theorem rmove_no (w : World) (v : Value) (L : List (Int × Int)) (h : Its w v L) (h4 : L.length ≤ 4096) (id key : Int) (hno : ∀ e ∈ L, e.1 ≠ id) :
    Calls Tryd.prog 9 #[v, .int .i64 id, .int .i64 key] w (RPost w v L 50) := by
  have HD := Lib.hid (rdrop_no w v L h h4 id hno)
  have H := Lib.hid h
  clear h hno
  go_enter Tryd.func9, Tryd.ntmps9
  go_wp2_with fail
  refine HD.out.mono ?_
  rintro e w1 ⟨v', rfl, _, hb, _⟩
  have HE := Lib.hid (show RPost w v L 50 (.returned (.tuple #[v, .int .i64 50])) w1 from ⟨v, rfl, H.out.below hb, hb, fun g e => .inl e⟩)
  clear hb
  go_wp2_with fail
  go_ret2
  exact HE.out
set_option maxHeartbeats 1000000 in
theorem rmove_yes (w : World) (v : Value) (L : List (Int × Int)) (h : Its w v L) (h4 : L.length ≤ 4096) (id key : Int) (i : Nat) (hi : FirstAt L id i) (hno : ∀ e ∈ L.eraseIdx i, e.1 ≠ id) :
    Calls Tryd.prog 9 #[v, .int .i64 id, .int .i64 key] w (PushPost w v (L.eraseIdx i) (id, key)) := by
  have HD := Lib.hid (rdrop_yes w v L h h4 id i hi)
  have HN := Lib.hid hno
  have hle : (L.eraseIdx i).length ≤ 4096 := Nat.le_trans (List.length_eraseIdx_le ..) h4
  clear h hno hi
  go_enter Tryd.func9, Tryd.ntmps9
  go_wp2_with fail
  refine HD.out.mono ?_
  rintro e w1 ⟨v', rfl, h1, hb, hf⟩
  have HP := Lib.hid (rpush_yes w1 v' _ h1 hle id key HN.out)
  have HB := Lib.hid hb
  have HF := Lib.hid hf
  clear h1 hb hf
  go_wp2_with fail
  refine HP.out.mono ?_
  rintro e w2 ⟨k, hk, v2, rfl, h2, hb2, hf2⟩
  have HE := Lib.hid (show PushPost w v (L.eraseIdx i) (id, key) (.returned (.tuple #[v2, .int .i64 0])) w2 from ⟨k, hk, v2, rfl, h2, bnext HB.out hb2, fun g e => by
    rcases hf2 g e with h | h
    · exact HF.out g h
    · exact .inr (Nat.le_trans HB.out.size h)⟩)
  clear hk h2 hb2 hf2
  go_wp2_with fail
  go_ret2
  exact HE.out
end Go.Proofs.YtodcnlmodoahjaaDoor
