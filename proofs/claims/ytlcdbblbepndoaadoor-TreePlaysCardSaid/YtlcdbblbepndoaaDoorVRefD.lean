/- The document's own tree: All, Kids; no condition but those that each row names. -/
import Derived.Test.YtlcdbblbepndoaaDoorVRefC
import Derived.IntWalk
namespace Go.Proofs.YtlcdbblbepndoaaDoor
open Go.RowKit Tr

section
variable {S : Nat → Prop} {A : Tab} {X : Sh} {k0 : Int} {s : TS} {g cap : Nat}

set_option maxHeartbeats 2000000 in
theorem rall_any (w : World) (h : RD S w g cap (nl A X)) :
    Calls Tryd.prog 14 #[rtv k0 s g cap (nl A X).length] w (RowPost w ((X.pt 0).map A.hd)) := by
  obtain ⟨i0, hinf, hz0, hz1, hz2⟩ := info_parts Tryd.info33
  have hle := h.le
  have HC := Lib.hid (show ∀ w1, Below w.heap.size w w1 → ∀ k (hk : k < (nl A X).length), w1.cell? ⟨g, k * 2, none⟩ = some (.int .i64 (nl A X)[k].1) from fun w1 hb k hk => ((h.below hb).at k hk).1)
  have hM : (X.pt 0).map A.hd = (nl A X).map (·.1) := by simp [nl]
  rw [hM]
  have hb0 : ∀ o, Below w.heap.size w (w.alloc o) := fun o => (Below.refl _ _).alloc (Nat.le_refl _) o
  generalize nl A X = L at *
  clear h hM
  go_enter Tryd.func14, Tryd.ntmps14
  go_wp2_with fail
  have HK5 := Lib.hid (five_keep (w := w) (k0 := k0) (s := s) (g := g) (cap := cap) (n := L.length) (t := 31) (Below.refl _ _))
  have HB0 := Lib.hid (hb0 (.cells #[.int .i64 k0, .slice s.p s.n s.c, .slice s.q s.m s.d, .slice s.r s.l s.e, .slice (some ⟨g, 0, none⟩) L.length cap] 31))
  generalize w.alloc (.cells #[.int .i64 k0, .slice s.p s.n s.c, .slice s.q s.m s.d, .slice s.r s.l s.e, .slice (some ⟨g, 0, none⟩) L.length cap] 31) = W0 at *
  have HKEEP := Lib.hid (show ∀ W, Below W0.heap.size W0 W → (W.cell? ⟨w.heap.size, 0, none⟩ = some (.int .i64 k0) ∧ W.cell? ⟨w.heap.size, 1, none⟩ = some (.slice s.p s.n s.c) ∧ W.cell? ⟨w.heap.size, 2, none⟩ = some (.slice s.q s.m s.d) ∧ W.cell? ⟨w.heap.size, 3, none⟩ = some (.slice s.r s.l s.e) ∧ W.cell? ⟨w.heap.size, 4, none⟩ = some (.slice (some ⟨g, 0, none⟩) L.length cap) ∧ Below W0.heap.size W0 W) from fun W h =>
    ⟨(HK5.out W h).1, (HK5.out W h).2.1, (HK5.out W h).2.2.1, (HK5.out W h).2.2.2.1, (HK5.out W h).2.2.2.2, h⟩)
  obtain ⟨d0, d1, d2, d3, d4⟩ := HK5.out W0 (Below.refl _ _)
  clear hb0
  go_loopw [3, 4] (fun xv iv wr => ∃ (k : Nat) (Q : List Int), k ≤ L.length ∧ iv = .int .i64 k ∧ Hid (Q = (L.take k).map (·.1)) ∧ Q.length ≤ k ∧ Hid (OwnH W0.heap.size wr xv Q) ∧ Hid (Below W0.heap.size W0 wr)) (fun _ iv _ => L.length - (intOf iv).toNat)
  case atStart => exact ⟨0, [], Nat.zero_le _, rfl, Lib.hid rfl, Nat.le_refl _, Lib.hid (World.ownsRow_nil _ _ _ _), Lib.hid (Below.refl _ _)⟩
  case round =>
    obtain ⟨k, Q, hk, rfl, HQ, hql, HX, HB⟩ := hrel
    obtain ⟨px, cx, rfl⟩ := HX.out.shape
    obtain ⟨e0, e1, e2, e3, e4⟩ := HK5.out wr HB.out
    have hsz := HB.out.size
    have hsz0 := HB0.out.size
    clear d0 d1 d2 d3 d4
    by_cases hlt : k < L.length
    · have hlt3 : (k : Int) < (L.length : Int) := by omega
      have k0 : (0 : Int) ≤ (k : Int) := by omega
      have c0 := HC.out wr (bnext HB0.out HB.out) k hlt
      have HT := Lib.hid (show Q ++ [L[k].1] = (L.take (k + 1)).map (·.1) from by rw [List.take_succ_eq_append_getElem hlt, List.map_append, HQ.out]; rfl)
      generalize L[k].1 = y at *
      clear hlt
      go_wp2_with (at_builtin; refine wpList_append_own _ rfl _ _ 43 rfl W0.heap.size 33 i0 (.int .i64 0) 1 8 Tryd.underlying43 hinf hz0 hz1 hz2 rfl (by decide) _ _ _ rfl (HX.out.alloc _) ⟨wr.heap.size, 0, none⟩ 1 1 [.int .i64 y] rfl rfl ?a1 ?a2 ?a3 ?a4 ?a5 ?_)
      case a1 => exact news_one wr _ _
      case a2 => intro u hu; simp at hu; subst hu; rfl
      case a3 => unfold maxLen; first | omega | (simp; omega)
      case a4 => first | omega | (simp; omega)
      case a5 => simp; omega
      intro v' w3 hown3 hgrow3 _
      have HO := Lib.hid (show OwnH W0.heap.size w3 v' (Q ++ [y]) by unfold OwnH; rw [← ints_snoc, List.length_append]; exact hown3)
      have HB3 := Lib.hid (show Below W0.heap.size W0 w3 from (below_alloc HB.out _).grown hgrow3 (by simp; omega) (fun g e => (HX.out.lt g e).1))
      clear hown3 hgrow3
      go_wp2_with fail
      go_roundw
      case rel => exact ⟨k + 1, Q ++ [y], by omega, by go_num, HT, by simp; omega, HO, HB3⟩
      case measure => simp [intOf]; omega
    · have hge : (L.length : Int) ≤ (k : Int) := by omega
      have HE := Lib.hid (show Q = L.map (·.1) from by rw [HQ.out, List.take_of_length_le (by omega)])
      go_wp2_with fail
      go_ret
      rw [← HE.out]
      exact ⟨_, rfl, HX.out.base HB0.out.size, bnext HB0.out HB.out⟩

set_option maxHeartbeats 2000000 in
theorem rkids_no (hR : Rel A X) (w : World) (h : RD S w g cap (nl A X)) (x : Int) (hf : A.find x = none) :
    Calls Tryd.prog 33 #[rtv k0 s g cap (nl A X).length, .int .i64 x] w fun e w' => e = .returned (.tuple #[.slice none 0 0, .int .i64 20]) ∧ Below w.heap.size w w' := by
  have HP := Lib.hid (fun w1 (hb : Below w.heap.size w w1) => rplace_no S k0 s g cap _ w1 (h.below hb) x (nl_none hR hf))
  have hb0 : ∀ o, Below w.heap.size w (w.alloc o) := fun o => (Below.refl _ _).alloc (Nat.le_refl _) o
  generalize nl A X = L at *
  clear h hR hf
  go_enter Tryd.func33, Tryd.ntmps33
  go_wp2_with fail
  refine (HP.out _ (hb0 _)).mono ?_
  rintro e w1 ⟨rfl, hb1⟩
  have hb2 := bnext (hb0 _) hb1
  go_wp2_with fail
  go_ret2
  exact ⟨rfl, hb2⟩
theorem rpath_no (hR : Rel A X) (w : World) (h : RD S w g cap (nl A X)) (x : Int) (hf : A.find x = none) :
    Calls Tryd.prog 36 #[rtv k0 s g cap (nl A X).length, .int .i64 x] w fun e w' => e = .returned (.tuple #[.slice none 0 0, .int .i64 20]) ∧ Below w.heap.size w w' := by
  have HP := Lib.hid (fun w1 (hb : Below w.heap.size w w1) => rplace_no S k0 s g cap _ w1 (h.below hb) x (nl_none hR hf))
  have hb0 : ∀ o, Below w.heap.size w (w.alloc o) := fun o => (Below.refl _ _).alloc (Nat.le_refl _) o
  generalize nl A X = L at *
  clear h hR hf
  go_enter Tryd.func36, Tryd.ntmps36
  go_wp2_with fail
  refine (HP.out _ (hb0 _)).mono ?_
  rintro e w1 ⟨rfl, hb1⟩
  have hb2 := bnext (hb0 _) hb1
  go_wp2_with fail
  go_ret2
  exact ⟨rfl, hb2⟩
set_option maxHeartbeats 2000000 in
set_option maxRecDepth 100000 in
theorem rkids_yes (hR : Rel A X) (w : World) (h : RD S w g cap (nl A X)) (i : Nat) (hi : X.t i = true) :
    Calls Tryd.prog 33 #[rtv k0 s g cap (nl A X).length, .int .i64 (A.hd i)] w fun e w' => ∃ v, e = .returned (.tuple #[v, .int .i64 0]) ∧ OwnH w.heap.size w' v ((X.kids i).map A.hd) ∧ Below w.heap.size w w' := by
  obtain ⟨i0, hinf, hz0, hz1, hz2⟩ := info_parts Tryd.info33
  obtain ⟨j, _, hj⟩ := place_of hR.tree hi
  have HP := Lib.hid (fun w1 (hb : Below w.heap.size w w1) => rplace_yes S k0 s g cap _ w1 (h.below hb) (A.hd i) j (nl_first hR hj))
  obtain ⟨⟨he1, he2, he3⟩, he4, he5⟩ := nl_end hR hj
  have HE := Lib.hid (fun w1 (hb : Below w.heap.size w w1) => rend_ok S k0 s g cap _ w1 (h.below hb) j _ he1 he4 he5 he2 he3)
  obtain ⟨M, hMd⟩ : ∃ M, M = (X.kids i).flatMap X.pt := ⟨_, rfl⟩
  have hpt : X.pt i = i :: M := by rw [hMd]; exact pt_eq hR.tree hi
  have hM64 : M.length ≤ 63 := by
    have := pt_len hR.tree hi
    rw [hpt] at this
    simp at this
    omega
  have HM := Lib.hid (show ∀ W, Below w.heap.size w W → ∀ m (hm : m < M.length), j + 1 + m < (nl A X).length ∧ W.cell? ⟨g, (j + 1 + m) * 2, none⟩ = some (.int .i64 (A.hd M[m])) ∧ W.cell? ⟨g, (j + 1 + m) * 2 + 1, none⟩ = some (.int .i64 (X.d M[m] : Nat)) from fun W hb m hm => by
    obtain ⟨pre, post, e, hjp, _⟩ := place_end hR.tree hi hj
    have : (X.pt 0)[j + 1 + m]? = some M[m] := by
      rw [e, hpt, List.append_assoc, List.getElem?_append_right (by omega), show j + 1 + m - pre.length = m + 1 by omega]
      simp [List.getElem?_append_left, hm]
    obtain ⟨h1, h2⟩ := nl_at (A := A) this
    have h3 := (h.below hb).at _ h1
    rw [h2] at h3
    exact ⟨h1, h3⟩)
  have HD := Lib.hid (show ∀ W, Below w.heap.size w W → W.cell? ⟨g, j * 2 + 1, none⟩ = some (.int .i64 (X.d i : Nat)) from fun W hb => by
    obtain ⟨h1, h2⟩ := nl_at (A := A) hj
    have h3 := ((h.below hb).at _ h1).2
    rw [h2] at h3
    exact h3)
  have HKP := Lib.hid (show M.filter (fun x => decide (X.d x = X.d i + 1)) = X.kids i from by rw [hMd]; exact kids_of_part hR.tree i)
  rw [show j + (X.pt i).length = j + 1 + M.length by rw [hpt]; simp; omega] at HE
  have hd8 := hR.tree.d8 i hi
  have hjl : j < (nl A X).length := he1
  have hjL : ((nl A X).length : Int) ≤ 64 := by have := h.le; omega
  have hE64 : j + 1 + M.length ≤ 64 := by
    rw [hpt] at he5
    simp at he5
    omega
  obtain ⟨n, hn⟩ : ∃ n, n = X.d i := ⟨_, rfl⟩
  rw [← hn] at HD HKP hd8
  have hw1 : IntKind.i64.wrap ((n : Int) + 1) = (n : Int) + 1 := IntWalk.i64_in _ (by omega)
  have hw2 : IntKind.i64.wrap ((j : Int) + 1) = (j : Int) + 1 := IntWalk.i64_in _ (by omega)
  have hj0 : (0 : Int) ≤ (j : Int) := by omega
  have hj1 : (j : Int) < ((nl A X).length : Int) := by omega
  have hj2 : decide ((j : Int) < 0) = false := decide_eq_false (by omega)
  obtain ⟨KK, hKK⟩ : ∃ KK, KK = (X.kids i).map A.hd := ⟨_, rfl⟩
  rw [← hKK]
  have HKK := Lib.hid hKK
  have hb0 : ∀ o, Below w.heap.size w (w.alloc o) := fun o => (Below.refl _ _).alloc (Nat.le_refl _) o
  generalize nl A X = L at *
  generalize A.hd i = yi at *
  clear h hi hj he1 he2 he3 he4 he5 hpt hMd hn hKK
  go_enter Tryd.func33, Tryd.ntmps33
  go_wp2_with fail
  have HK5 := Lib.hid (five_keep (w := w) (k0 := k0) (s := s) (g := g) (cap := cap) (n := L.length) (t := 31) (Below.refl _ _))
  have HB0 := Lib.hid (hb0 (.cells #[.int .i64 k0, .slice s.p s.n s.c, .slice s.q s.m s.d, .slice s.r s.l s.e, .slice (some ⟨g, 0, none⟩) L.length cap] 31))
  generalize w.alloc (.cells #[.int .i64 k0, .slice s.p s.n s.c, .slice s.q s.m s.d, .slice s.r s.l s.e, .slice (some ⟨g, 0, none⟩) L.length cap] 31) = W0 at *
  have HKEEP := Lib.hid (show ∀ W, Below W0.heap.size W0 W → (W.cell? ⟨w.heap.size, 0, none⟩ = some (.int .i64 k0) ∧ W.cell? ⟨w.heap.size, 1, none⟩ = some (.slice s.p s.n s.c) ∧ W.cell? ⟨w.heap.size, 2, none⟩ = some (.slice s.q s.m s.d) ∧ W.cell? ⟨w.heap.size, 3, none⟩ = some (.slice s.r s.l s.e) ∧ W.cell? ⟨w.heap.size, 4, none⟩ = some (.slice (some ⟨g, 0, none⟩) L.length cap) ∧ Below W0.heap.size W0 W) from fun W h =>
    ⟨(HK5.out W h).1, (HK5.out W h).2.1, (HK5.out W h).2.2.1, (HK5.out W h).2.2.2.1, (HK5.out W h).2.2.2.2, h⟩)
  obtain ⟨d0, d1, d2, d3, d4⟩ := HK5.out W0 (Below.refl _ _)
  clear hb0
  refine (HP.out _ HB0.out).mono ?_
  rintro e w1 ⟨rfl, hb1⟩
  have HB1 := Lib.hid hb1
  obtain ⟨e0, e1, e2, e3, e4⟩ := HK5.out w1 hb1
  clear d0 d1 d2 d3 d4 hb1
  go_wp2_with fail
  go_loopw [7, 8] (fun xv iv wr => ∃ (m : Nat) (Q : List Nat), m ≤ M.length ∧ iv = .int .i64 ((j + 1 + m : Nat) : Int) ∧ Hid (Q = (M.take m).filter fun x => decide (X.d x = n + 1)) ∧ Q.length ≤ m ∧ Hid (OwnH W0.heap.size wr xv (Q.map A.hd)) ∧ Hid (Below W0.heap.size W0 wr)) (fun _ iv _ => j + 1 + M.length - (intOf iv).toNat)
  case atStart => exact ⟨0, [], Nat.zero_le _, congrArg (Value.int .i64) (by omega), Lib.hid rfl, Nat.le_refl _, Lib.hid (World.ownsRow_nil _ _ _ _), HB1⟩
  case round =>
    obtain ⟨m, Q, hm, rfl, HQ, hql, HX, HB⟩ := hrel
    obtain ⟨px, cx, hpx⟩ := HX.out.shape
    rw [List.length_map] at hpx
    subst hpx
    obtain ⟨f0, f1, f2, f3, f4⟩ := HK5.out wr HB.out
    clear e0 e1 e2 e3 e4
    have HEW := Lib.hid (HE.out wr (bnext HB0.out HB.out))
    have hsz0 := HB0.out.size
    by_cases hlt : m < M.length
    · have hcl := (HM.out wr (bnext HB0.out HB.out) m hlt).1
      have hlt4 : ((j + 1 + m : Nat) : Int) < ((j + 1 + M.length : Nat) : Int) := by omega
      have hlt5 : ((j + 1 + m : Nat) : Int) < (L.length : Int) := by omega
      have k0 : (0 : Int) ≤ ((j + 1 + m : Nat) : Int) := by omega
      have HMM := Lib.hid (fun W hb => (HM.out W hb m hlt).2)
      have HT := Lib.hid (show (M.take (m + 1)).filter (fun x => decide (X.d x = n + 1)) = Q ++ if X.d M[m] = n + 1 then [M[m]] else [] from by
        rw [List.take_succ_eq_append_getElem hlt, List.filter_append, ← HQ.out, List.filter_cons, List.filter_nil]
        simp only [decide_eq_true_eq])
      obtain ⟨x, hx⟩ : ∃ x, x = M[m] := ⟨_, rfl⟩
      rw [← hx] at HMM HT
      have hww : IntKind.i64.wrap (((j + 1 + m : Nat) : Int) + 1) = ((j + 1 + m : Nat) : Int) + 1 := IntWalk.i64_in _ (by omega)
      clear hx hlt
      obtain ⟨t, ht⟩ : ∃ t, t = j + 1 + m := ⟨_, rfl⟩
      obtain ⟨E, hE⟩ : ∃ E, E = j + 1 + M.length := ⟨_, rfl⟩
      rw [← ht] at hlt4 hlt5 k0 HMM hww ⊢
      rw [← hE] at hlt4 HEW
      have HTT := Lib.hid ht
      have HEE := Lib.hid hE
      clear ht hE
      go_wp2_with fail
      refine HEW.out.mono ?_
      rintro e w2 ⟨rfl, hb⟩
      have HB2 := Lib.hid (bnext HB.out hb)
      obtain ⟨c0, c1⟩ := HMM.out w2 (bnext HB0.out HB2.out)
      have cd := HD.out w2 (bnext HB0.out HB2.out)
      obtain ⟨g0, g1, g2, g3, g4⟩ := HK5.out w2 HB2.out
      have HX2 := Lib.hid (HX.out.below hb)
      clear hb f0 f1 f2 f3 f4
      by_cases hxd : X.d x = n + 1
      · rw [if_pos hxd] at HT
        have hq : (((X.d x : Nat) : Int) == (n : Int) + 1) = true := by rw [beq_iff_eq]; omega
        obtain ⟨dx, hdx⟩ : ∃ dx, dx = ((X.d x : Nat) : Int) := ⟨_, rfl⟩
        rw [← hdx] at hq c1
        obtain ⟨z, hz⟩ : ∃ z, z = A.hd x := ⟨_, rfl⟩
        rw [← hz] at c0
        have HZ := Lib.hid hz
        clear hxd hdx hz
        go_wp2_with fail
        go_quiet (fail)
        have HB3' := Lib.hid (show Below W0.heap.size W0 (w2.drewN nq) from below_drewN HB2.out _)
        have HX3 := Lib.hid (show OwnH W0.heap.size (w2.drewN nq) (.slice px Q.length cx) (Q.map A.hd) from HX2.out)
        have c0' : (w2.drewN nq).cell? ⟨g, t * 2, none⟩ = some (.int .i64 z) := c0
        have g4' : (w2.drewN nq).cell? ⟨w.heap.size, 4, none⟩ = some (.slice (some ⟨g, 0, none⟩) L.length cap) := g4
        clear c0 c1 cd g0 g1 g2 g3 g4
        generalize w2.drewN nq = w4 at *
        have hsz := HB3'.out.size
        go_wp2_with (at_builtin; refine wpList_append_own _ rfl _ _ 43 rfl W0.heap.size 33 i0 (.int .i64 0) 1 8 Tryd.underlying43 hinf hz0 hz1 hz2 rfl (by decide) _ _ _ rfl (HX3.out.alloc _) ⟨w4.heap.size, 0, none⟩ 1 1 [.int .i64 z] rfl rfl ?a1 ?a2 ?a3 ?a4 ?a5 ?_)
        case a1 => exact news_one w4 _ _
        case a2 => intro u hu; simp at hu; subst hu; rfl
        case a3 => unfold maxLen; first | omega | (simp; omega)
        case a4 => first | omega | (simp; omega)
        case a5 => simp; omega
        intro v' w3 hown3 hgrow3 _
        have HO := Lib.hid (show OwnH W0.heap.size w3 v' ((Q ++ [x]).map A.hd) by
          have h2 := hown3
          rw [HZ.out] at h2
          unfold OwnH
          simp only [ints, List.map_append, List.map_cons, List.map_nil, List.length_append, List.length_map] at h2 ⊢
          exact h2)
        have HB3 := Lib.hid (show Below W0.heap.size W0 w3 from (below_alloc HB3'.out _).grown hgrow3 (by simp; omega) (fun g e => (World.ownsRow.lt HX3.out g e).1))
        clear hown3 hgrow3
        go_wp2_with fail
        go_roundw
        case rel => exact ⟨m + 1, Q ++ [x], by have := HEE.out; have := HTT.out; omega, congrArg (Value.int .i64) (by have := HTT.out; omega), Lib.hid HT.out.symm, by simp; omega, HO, HB3⟩
        case measure => have := HEE.out; have := HTT.out; simp [intOf]; omega
      · rw [if_neg hxd, List.append_nil] at HT
        have hq : (((X.d x : Nat) : Int) == (n : Int) + 1) = false := by rw [beq_eq_false_iff_ne]; omega
        obtain ⟨dx, hdx⟩ : ∃ dx, dx = ((X.d x : Nat) : Int) := ⟨_, rfl⟩
        rw [← hdx] at hq c1
        clear hxd hdx
        go_wp2_with fail
        go_quiet (fail)
        have HB3' := Lib.hid (show Below W0.heap.size W0 (w2.drewN nq) from below_drewN HB2.out _)
        have HX3 := Lib.hid (show OwnH W0.heap.size (w2.drewN nq) (.slice px Q.length cx) (Q.map A.hd) from HX2.out)
        go_wp2_with fail
        go_roundw
        case rel => exact ⟨m + 1, Q, by have := HEE.out; have := HTT.out; omega, congrArg (Value.int .i64) (by have := HTT.out; omega), Lib.hid HT.out.symm, by omega, HX3, HB3'⟩
        case measure => have := HEE.out; have := HTT.out; simp [intOf]; omega
    · have hmM : m = M.length := by omega
      have HE2 := Lib.hid (show Q.map A.hd = KK from by rw [HQ.out, hmM, List.take_length, HKP.out, HKK.out])
      have hge : ((j + 1 + M.length : Nat) : Int) ≤ ((j + 1 + m : Nat) : Int) := by omega
      clear hmM hlt
      obtain ⟨t, ht⟩ : ∃ t, t = j + 1 + m := ⟨_, rfl⟩
      obtain ⟨E, hE⟩ : ∃ E, E = j + 1 + M.length := ⟨_, rfl⟩
      rw [← ht] at hge ⊢
      rw [← hE] at hge HEW
      clear ht hE
      go_wp2_with fail
      refine HEW.out.mono ?_
      rintro e w2 ⟨rfl, hb⟩
      have HB2 := Lib.hid (bnext HB.out hb)
      have HX2 := Lib.hid (HX.out.below hb)
      clear hb
      go_wp2_with fail
      go_ret2
      rw [← HE2.out]
      exact ⟨_, rfl, HX2.out.base HB0.out.size, bnext HB0.out HB2.out⟩
end
end Go.Proofs.YtlcdbblbepndoaaDoor
