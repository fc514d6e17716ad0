/- The program's part of a node: it and all below it, by recursion; no condition but those that each row names. -/
import Derived.Test.YtlcdbblbepndoaaDoorVPath
namespace Go.Proofs.YtlcdbblbepndoaaDoor
open Go.RowKit Tr

theorem one_own (w : World) (x : Int) (B : Nat) (hB : B ≤ w.heap.size) : OwnH B (w.alloc (.cells #[.int .i64 x] 33)) (.slice (some ⟨w.heap.size, 0, none⟩) 1 1) [x] :=
  World.ownsRow_lit w #[.int .i64 x] 1 hB (by unfold maxLen; omega) (by simp)

set_option maxHeartbeats 1000000 in
set_option maxRecDepth 100000 in
theorem tpart (T : Nat → Prop) (B : Nat) (A : Tab) (X : Sh) (hR : Rel A X) (bt b : Nat) : ∀ i, X.t i = true → ∀ (w : World) (_ : TR T B w A bt b),
    Calls Tryd.prog 27 #[.pointer (some ⟨bt, 0, none⟩), .int .i64 (A.hd i)] w (RowPost w ((X.pt i).map A.hd)) := by
  refine ind hR.tree ?_
  intro i hi ih w h
  obtain ⟨i0, hinf, hz0, hz1, hz2⟩ := info_parts Tryd.info33
  have HK := Lib.hid (fun w1 (hb : Below w.heap.size w w1) => show Calls Tryd.prog 53 #[.pointer (some ⟨bt, 0, none⟩), .int .i64 (A.hd i)] w1 (RowPost w1 ((X.kids i).map A.hd)) from by
    rw [← hR.kids hi]; exact tkids T B A hR.good w1 bt b (h.below hb) (A.hd i))
  have HI := Lib.hid (fun w1 (hb : Below w.heap.size w w1) k (hk : k ∈ X.kids i) => ih k hk w1 (h.below hb))
  have HL := Lib.hid (show ∀ k, k ∈ X.kids i → (X.pt k).length ≤ 64 from fun k hk => pt_len hR.tree ((mem_kids hR.tree).1 hk).1)
  have HL2 := Lib.hid (show ∀ k, (i :: ((X.kids i).take k).flatMap X.pt).length ≤ 64 from fun k => by
    have h1 := pt_len hR.tree hi
    rw [pt_eq hR.tree hi] at h1
    have h2 : (X.kids i).flatMap X.pt = ((X.kids i).take k).flatMap X.pt ++ ((X.kids i).drop k).flatMap X.pt := by rw [← List.flatMap_append, List.take_append_drop]
    rw [h2] at h1
    simp at h1 ⊢
    omega)
  have HPT := Lib.hid (pt_eq hR.tree hi)
  obtain ⟨y, hy⟩ : ∃ y, y = A.hd i := ⟨_, rfl⟩
  rw [← hy] at HK ⊢
  have HY := Lib.hid hy
  obtain ⟨K, hK⟩ : ∃ K, K = X.kids i := ⟨_, rfl⟩
  rw [← hK] at HK HI HL HL2 HPT
  have HKE := Lib.hid hK
  clear h hi ih hy hK
  go_enter Tryd.func27, Tryd.ntmps27
  go_wp2_with fail
  have hb0 : Below w.heap.size w (w.alloc (.cells #[.int .i64 y] 33)) := (Below.refl w.heap.size w).alloc (Nat.le_refl _) _
  have HO0 := Lib.hid (show OwnH w.heap.size (w.alloc (.cells #[.int .i64 y] 33)) (.slice (some ⟨w.heap.size, 0, none⟩) 1 1) ((i :: ((K.take 0).flatMap X.pt)).map A.hd) from by rw [HY.out]; exact one_own w _ _ (Nat.le_refl _))
  refine (HK.out _ hb0).mono ?_
  rintro e w1 ⟨v, rfl, hl, hb1⟩
  have HX1 := Lib.hid (HO0.out.below hb1)
  have HB1 := Lib.hid (bnext hb0 hb1)
  obtain ⟨p, cp, rfl⟩ := hl.shape
  have hK64 : K.length ≤ 64 := by
    have h2 := few (kids_nodup X i) (n := 64) (fun x hx => by
      unfold Sh.kids at hx
      exact List.mem_range.1 (List.mem_filter.1 hx).1)
    have h3 := HKE.out
    rw [h3]; exact h2
  have HKL := Lib.hid (fun w2 (hk : Keeps (fun x => x = w.heap.size) w1 w2) => (Lst.of_own (S := fun x => x = w.heap.size) hl (ints_len _) (by rw [List.length_map]; omega) (fun x hx _ e => by simp at hx; omega)).keeps hk)
  rw [List.length_map] at *
  clear hl hb0 hb1 HO0 HK
  go_wp2_with fail
  go_loopw [5, 14] (fun xv iv wr => ∃ (k : Nat) (Q : List Nat), k ≤ K.length ∧ iv = .int .i64 k ∧ Hid (Q = i :: (K.take k).flatMap X.pt) ∧ Q.length ≤ 64 ∧ Hid (OwnH w.heap.size wr xv (Q.map A.hd)) ∧ Hid (Below w.heap.size w wr) ∧ Hid (Keeps (fun x => x = w.heap.size) w1 wr) ∧ Hid (∀ g, xv.ownBlock = some g → g = w.heap.size ∨ w1.heap.size ≤ g)) (fun _ iv _ => K.length - (intOf iv).toNat)
  case atStart => exact ⟨0, _, Nat.zero_le _, rfl, Lib.hid rfl, HL2.out 0, HX1, HB1, Lib.hid (Keeps.refl _ _), Lib.hid (fun g e => .inl (by simp [Value.ownBlock] at e; exact e.symm))⟩
  case round =>
    obtain ⟨k, Q, hk, rfl, HQ, hQ64, HX, HB, HBB, HG⟩ := hrel
    obtain ⟨px, cx, hpv⟩ := HX.out.shape
    rw [List.length_map] at hpv
    subst hpv
    by_cases hlt : k < K.length
    · obtain ⟨_, _, hsl, _, hcs⟩ := HKL.out wr HBB.out
      injection hsl with hs1 hs2 hs3
      subst hs1 hs3
      obtain ⟨g, off, rfl, _, hc⟩ := hcs k _ (ints_at (by rw [List.length_map]; exact hlt))
      have hgd : (K.map A.hd).getD k 0 = A.hd K[k] := by simp [List.getD_eq_getElem?_getD, hlt]
      rw [hgd] at hc
      have hmem : K[k] ∈ K := List.getElem_mem hlt
      have HC := Lib.hid (HI.out wr HB.out K[k] hmem)
      have hL64 := HL.out K[k] hmem
      have HN := Lib.hid (show (X.pt K[k]).length ≠ 0 from fun e => by
        have := pt_self (X := X) K[k]
        rw [List.length_eq_zero_iff.1 e] at this
        cases this)
      have HQ2 := Lib.hid (show Q ++ X.pt K[k] = i :: (K.take (k + 1)).flatMap X.pt from by
        rw [List.take_succ_eq_append_getElem hlt, List.flatMap_append, HQ.out]; simp)
      have hQ2 : (Q ++ X.pt K[k]).length ≤ 64 := by rw [HQ2.out]; exact HL2.out (k + 1)
      have k0 : (0 : Int) ≤ (k : Int) := by omega
      have k1 : (k : Int) < (K.length : Int) := by omega
      have hsz := HB.out.size
      have hszB := HBB.out.size
      clear hcs hs2 hgd hmem
      generalize A.hd K[k] = z at *
      generalize X.pt K[k] = L at *
      rw [List.length_append] at hQ2
      go_wp2_with fail
      refine HC.out.mono ?_
      rintro e w2 ⟨v2, rfl, hl2, hb2⟩
      have HX2 := Lib.hid (HX.out.below hb2)
      have HB2 := Lib.hid (bnext HB.out hb2)
      have HBB2 := Lib.hid (HBB.out.trans (Keeps.of_below hb2))
      obtain ⟨pl, cl, hpl⟩ := hl2.shape
      rw [List.length_map] at hpl
      subst hpl
      have HL2' := Lib.hid hl2
      have hsz2 := hb2.size
      clear hl2 hb2
      have hbase : w.heap.size ≤ w2.heap.size := HB2.out.size
      have hb1 : w1.heap.size ≤ w2.heap.size := HBB2.out.size
      have hn1 : L.length ≠ 0 := by have := HN.out; exact this
      obtain ⟨g2, cl2, cur2, hv2, _, _⟩ := own_block HL2'.out (by rw [List.length_map]; omega)
      injection hv2 with e1 e2 e3
      subst e1
      clear e2 e3
      go_wp2_with (at_builtin; refine wpList_append_own_at _ rfl _ _ 43 rfl w.heap.size 33 i0 (.int .i64 0) 1 8 Tryd.underlying43 hinf hz0 hz1 hz2 rfl (by decide) _ _ _ rfl HX2.out ⟨g2, 0, none⟩ _ _ (ints (L.map A.hd)) rfl (by simp [ints]) ?a1 ints_one ?a3 ?a4 ?a5 ?_)
      case a1 => exact HL2'.out.cells rfl
      case a3 => unfold maxLen; simp; omega
      case a4 => simp; omega
      case a5 => exact hbase
      intro v' w3 hown3 hgrow3 _ hat3
      have HO := Lib.hid (show OwnH w.heap.size w3 v' ((Q ++ L).map A.hd) by
        have h2 := hown3
        unfold OwnH
        simp only [ints, List.map_append, List.length_append, List.length_map] at h2 ⊢
        exact h2)
      have HB3 := Lib.hid (show Below w.heap.size w w3 from HB2.out.grown hgrow3 hbase (fun g e => (HX2.out.lt g e).1))
      have HBB3 := Lib.hid (show Keeps (fun x => x = w.heap.size) w1 w3 from HBB2.out.grown hgrow3 (fun g e => HG.out g e))
      have HG3 := Lib.hid (show ∀ g, v'.ownBlock = some g → g = w.heap.size ∨ w1.heap.size ≤ g from fun g e => by
        rcases hat3 with h1 | h1
        · exact HG.out g (h1 ▸ e)
        · rw [h1] at e; injection e with e; omega)
      clear hown3 hgrow3 hat3
      go_wp2_with fail
      go_roundw
      case rel => exact ⟨k + 1, Q ++ L, by omega, by go_num, HQ2, by rw [List.length_append]; omega, HO, HB3, HBB3, HG3⟩
      case measure => simp [intOf]; omega
    · have hkK : k = K.length := by omega
      have HE := Lib.hid (show Q = X.pt i from by rw [HQ.out, HPT.out, hkK, List.take_length])
      clear hkK
      go_wp2_with fail
      go_ret
      rw [← HE.out]
      exact ⟨_, rfl, HX.out, HB.out⟩
end Go.Proofs.YtlcdbblbepndoaaDoor
