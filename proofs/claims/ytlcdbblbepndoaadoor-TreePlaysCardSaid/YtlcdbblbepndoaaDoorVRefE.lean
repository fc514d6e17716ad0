/- The document's own Path; no condition but those that each row names. -/
import Derived.Test.YtlcdbblbepndoaaDoorVRefD
namespace Go.Proofs.YtlcdbblbepndoaaDoor
open Go.RowKit Tr

/-- On the way up, by places. -/
structure WayQ (A : Tab) (X : Sh) (i g : Nat) (t : Int) (Q : List Int) : Prop where
  ex : ∃ P R, X.back i = P ++ R ∧ Q = P.map A.hd ∧ R.length ≤ g ∧ ((R = [] ∧ t = -1) ∨ ∃ c jc : Nat, X.t c = true ∧ R = X.back c ∧ t = (jc : Int) ∧ (X.pt 0)[jc]? = some c)
theorem WayQ.len {A : Tab} {X : Sh} {i g : Nat} {t : Int} {Q : List Int} (h : WayQ A X i g t Q) : Q.length ≤ (X.back i).length := by
  obtain ⟨P, R, e, rfl, _⟩ := h.ex
  rw [e]; simp
theorem WayQ.low {A : Tab} {X : Sh} {i g : Nat} {t : Int} {Q : List Int} (h : WayQ A X i g t Q) : -1 ≤ t := by
  obtain ⟨P, R, e, rfl, _, ⟨_, rfl⟩ | ⟨c, jc, _, _, rfl, _⟩⟩ := h.ex <;> omega
theorem WayQ.stop {A : Tab} {X : Sh} {i g : Nat} {Q : List Int} (h : WayQ A X i g (-1) Q) : Q = (X.back i).map A.hd := by
  obtain ⟨P, R, e, rfl, _, ⟨rfl, _⟩ | ⟨c, jc, _, _, e2, _⟩⟩ := h.ex
  · rw [e, List.append_nil]
  · omega
theorem WayQ.next {S : Nat → Prop} {A : Tab} {X : Sh} {k0 : Int} {s : TS} {g cap : Nat} {i g' : Nat} {t : Int} {Q : List Int} (hw : WayQ A X i g' t Q) (hR : Rel A X) (w : World) (h : RD S w g cap (nl A X)) (ht : 0 ≤ t) :
    ∃ (kk : Nat) (y t2 : Int) (jc : Nat), g' = kk + 1 ∧ t = (jc : Int) ∧ jc < (nl A X).length ∧ (∀ W, Below w.heap.size w W → W.cell? ⟨g, jc * 2, none⟩ = some (.int .i64 y)) ∧
      (∀ W, Below w.heap.size w W → Calls Tryd.prog 57 #[rtv k0 s g cap (nl A X).length, .int .i64 (jc : Int)] W fun e w' => e = .returned (.int .i64 t2) ∧ Below W.heap.size W w') ∧ WayQ A X i kk t2 (Q ++ [y]) := by
  obtain ⟨P, R, e, rfl, hg, ⟨_, rfl⟩ | ⟨c, jc, hc, rfl, rfl, hj⟩⟩ := hw.ex
  · omega
  · have hl := back_len X c
    obtain ⟨h1, h2⟩ := nl_at (A := A) hj
    have hcell : ∀ W, Below w.heap.size w W → W.cell? ⟨g, jc * 2, none⟩ = some (.int .i64 (A.hd c)) := fun W hb => by
      have := ((h.below hb).at _ h1).1
      rw [h2] at this
      exact this
    by_cases hc0 : c = 0
    · have hz := (at_zero hR hj).2 hc0
      subst hc0
      subst hz
      refine ⟨g' - 1, A.hd 0, -1, 0, by omega, rfl, h1, hcell, fun W hb => rup_0 S k0 s g cap _ W (h.below hb), P ++ [0], [], by rw [e, back_0 hR.tree]; simp, by simp, by simp, .inl ⟨rfl, rfl⟩⟩
    · obtain ⟨q, hqj, hq, hj1, hq2, hq3⟩ := nl_up hR hj hc0
      rw [back_up hR.tree hc hc0] at e hg
      refine ⟨g' - 1, A.hd c, (q : Int), jc, by simp at hg; omega, rfl, h1, hcell, fun W hb => rup_ok S k0 s g cap _ W (h.below hb) jc q hj1 hqj hq2 hq3, P ++ [c], X.back (X.u c), by rw [e]; simp, by simp, by simp at hg; omega, .inr ⟨_, q, (hR.tree.up c hc hc0).1, rfl, rfl, hq⟩⟩

section
variable {S : Nat → Prop} {A : Tab} {X : Sh} {k0 : Int} {s : TS} {g cap : Nat}

set_option maxHeartbeats 2000000 in
set_option maxRecDepth 100000 in
theorem rpath_yes (hR : Rel A X) (w : World) (h : RD S w g cap (nl A X)) (i : Nat) (hi : X.t i = true) :
    Calls Tryd.prog 36 #[rtv k0 s g cap (nl A X).length, .int .i64 (A.hd i)] w fun e w' => ∃ v, e = .returned (.tuple #[v, .int .i64 0]) ∧ OwnH w.heap.size w' v ((X.path i).map A.hd) ∧ Below w.heap.size w w' := by
  obtain ⟨i0, hinf, hz0, hz1, hz2⟩ := info_parts Tryd.info33
  obtain ⟨j, _, hj⟩ := place_of hR.tree hi
  have HP := Lib.hid (fun w1 (hb : Below w.heap.size w w1) => rplace_yes S k0 s g cap _ w1 (h.below hb) (A.hd i) j (nl_first hR hj))
  have HST := Lib.hid (show WayQ A X i (X.back i).length (j : Int) [] from ⟨[], X.back i, rfl, rfl, Nat.le_refl _, .inr ⟨i, j, hi, rfl, rfl, hj⟩⟩)
  have HNX := Lib.hid (fun (g' : Nat) (t : Int) (Q : List Int) (hw : WayQ A X i g' t Q) (ht : 0 ≤ t) => hw.next hR (S := S) (k0 := k0) (s := s) (g := g) (cap := cap) w h ht)
  have HSTOP := Lib.hid (fun (g' : Nat) (Q : List Int) (hw : WayQ A X i g' (-1) Q) => hw.stop)
  have HQL := Lib.hid (fun (g' : Nat) (t : Int) (Q : List Int) (hw : WayQ A X i g' t Q) => hw.len)
  have HQT := Lib.hid (fun (g' : Nat) (t : Int) (Q : List Int) (hw : WayQ A X i g' t Q) => hw.low)
  have hb9 : (X.back i).length ≤ 9 := by rw [back_len]; have := hR.tree.d8 i hi; omega
  obtain ⟨PP, hPP⟩ : ∃ PP, PP = (X.path i).map A.hd := ⟨_, rfl⟩
  obtain ⟨BB, hBB⟩ : ∃ BB, BB = (X.back i).map A.hd := ⟨_, rfl⟩
  have HPB := Lib.hid (show PP = BB.reverse from by rw [hPP, hBB]; unfold Sh.path; rw [List.map_reverse])
  have hbl : BB.length ≤ 9 := by rw [hBB, List.length_map]; exact hb9
  rw [← hPP]
  rw [← hBB] at HSTOP
  obtain ⟨nb, hnb⟩ : ∃ nb, nb = (X.back i).length := ⟨_, rfl⟩
  rw [← hnb] at HST HQL
  have hj0 : (0 : Int) ≤ (j : Int) := by omega
  have hj2 : decide ((j : Int) < 0) = false := decide_eq_false (by omega)
  have hnb9 : nb ≤ 9 := by omega
  have hb0 : ∀ o, Below w.heap.size w (w.alloc o) := fun o => (Below.refl _ _).alloc (Nat.le_refl _) o
  generalize nl A X = L at *
  generalize A.hd i = yi at *
  clear h hi hj hPP hBB hnb hb9
  go_enter Tryd.func36, Tryd.ntmps36
  go_wp2_with fail
  have HK5 := Lib.hid (five_keep (w := w) (k0 := k0) (s := s) (g := g) (cap := cap) (n := L.length) (t := 31) (Below.refl _ _))
  have HB0 := Lib.hid (hb0 (.cells #[.int .i64 k0, .slice s.p s.n s.c, .slice s.q s.m s.d, .slice s.r s.l s.e, .slice (some ⟨g, 0, none⟩) L.length cap] 31))
  generalize w.alloc (.cells #[.int .i64 k0, .slice s.p s.n s.c, .slice s.q s.m s.d, .slice s.r s.l s.e, .slice (some ⟨g, 0, none⟩) L.length cap] 31) = W0 at *
  have HKEEP := Lib.hid (show ∀ W, Below W0.heap.size W0 W → (W.cell? ⟨w.heap.size, 0, none⟩ = some (.int .i64 k0) ∧ W.cell? ⟨w.heap.size, 1, none⟩ = some (.slice s.p s.n s.c) ∧ W.cell? ⟨w.heap.size, 2, none⟩ = some (.slice s.q s.m s.d) ∧ W.cell? ⟨w.heap.size, 3, none⟩ = some (.slice s.r s.l s.e) ∧ W.cell? ⟨w.heap.size, 4, none⟩ = some (.slice (some ⟨g, 0, none⟩) L.length cap) ∧ Below W0.heap.size W0 W) from fun W h =>
    ⟨(HK5.out W h).1, (HK5.out W h).2.1, (HK5.out W h).2.2.1, (HK5.out W h).2.2.2.1, (HK5.out W h).2.2.2.2, h⟩)
  obtain ⟨d0, d1, d2, d3, d4⟩ := HK5.out W0 (Below.refl _ _)
  clear hb0
  refine (HP.out _ HB0.out).mono ?_
  rintro e w1 ⟨rfl, hb1⟩
  have HB1 := Lib.hid hb1
  obtain ⟨e0, e1, e2, e3, e4⟩ := HK5.out w1 hb1
  clear d0 d1 d2 d3 d4 hb1
  go_wp2_with fail
  go_loopg [7, 8] nb (fun g' xv iv wr => ∃ (t : Int) (Q : List Int), iv = .int .i64 t ∧ Hid (WayQ A X i g' t Q) ∧ Hid (OwnH W0.heap.size wr xv Q) ∧ Hid (Below W0.heap.size W0 wr))
  case atStart => exact ⟨j, [], rfl, HST, Lib.hid (World.ownsRow_nil _ _ _ _), HB1⟩
  case round =>
    clear HST
    obtain ⟨t, Q, rfl, HW, HX, HB⟩ := hrel
    obtain ⟨px, cx, rfl⟩ := HX.out.shape
    obtain ⟨f0, f1, f2, f3, f4⟩ := HK5.out wr HB.out
    have hql := HQL.out _ _ _ HW.out
    have hqt := HQT.out _ _ _ HW.out
    clear e0 e1 e2 e3 e4
    have hsz := HB.out.size
    by_cases ht : 0 ≤ t
    · obtain ⟨kk, y, t2, jc, hg', htj, hjl, hcell, hup, hw2⟩ := HNX.out _ _ _ HW.out ht
      subst hg'
      subst htj
      have c0 := hcell wr (bnext HB0.out HB.out)
      have HU := Lib.hid (fun W hb => hup W hb)
      have HW2 := Lib.hid hw2
      have hjl' : (jc : Int) < (L.length : Int) := by omega
      have hdt : decide ((0 : Int) ≤ (jc : Int)) = true := decide_eq_true ht
      clear hcell hup hw2 hjl
      go_wp2_with (at_builtin; refine wpList_append_own _ rfl _ _ 43 rfl W0.heap.size 33 i0 (.int .i64 0) 1 8 Tryd.underlying43 hinf hz0 hz1 hz2 rfl (by decide) _ _ _ rfl (HX.out.alloc _) ⟨wr.heap.size, 0, none⟩ 1 1 [.int .i64 y] rfl rfl ?a1 ?a2 ?a3 ?a4 ?a5 ?_)
      case a1 => exact news_one wr _ _
      case a2 => intro u hu; simp at hu; subst hu; rfl
      case a3 => unfold maxLen; first | omega | (simp; omega)
      case a4 => first | omega | (simp; omega)
      case a5 => simp; omega
      intro v' w3 hown3 hgrow3 _
      have HO := Lib.hid (show OwnH W0.heap.size w3 v' (Q ++ [y]) by unfold OwnH; rw [← ints_snoc, List.length_append]; exact hown3)
      have HB3 := Lib.hid (show Below W0.heap.size W0 w3 from (below_alloc HB.out _).grown hgrow3 (by simp; omega) (fun g e => (HX.out.lt g e).1))
      have HUU := Lib.hid (HU.out w3 (bnext HB0.out HB3.out))
      obtain ⟨g0, g1, g2, g3, g4⟩ := HK5.out w3 HB3.out
      clear hown3 hgrow3 f0 f1 f2 f3 f4
      go_wp2_with fail
      refine HUU.out.mono ?_
      rintro e w4 ⟨rfl, hb⟩
      have HO4 := Lib.hid (HO.out.below hb)
      have HB4 := Lib.hid (bnext HB3.out hb)
      clear hb g0 g1 g2 g3 g4
      go_wp2_with fail
      go_roundg kk
      case measure => omega
      case rel => exact ⟨t2, Q ++ [y], rfl, HW2, HO4, HB4⟩
    · have ht1 : t = -1 := by omega
      subst ht1
      have HE := Lib.hid (HSTOP.out _ _ HW.out)
      clear ht hqt
      have HOQ := Lib.hid (fun W (hb : Below wr.heap.size wr W) => HX.out.below hb)
      have HBQ := Lib.hid HB.out
      have hQ9 : Q.length ≤ 9 := by omega
      have hbase0 := HB0.out.size
      obtain ⟨wq, hwq⟩ : ∃ wq, wq = wr := ⟨_, rfl⟩
      rw [← hwq] at HOQ HBQ hsz ⊢
      clear HX HB hwq f0 f1 f2 f3 f4
      go_wp2_with fail
      go_loopw [9, 10] (fun xv iv wr => ∃ (m : Nat) (R : List Int), m ≤ Q.length ∧ iv = .int .i64 ((m : Int) - 1) ∧ Hid (R = (Q.drop m).reverse) ∧ R.length ≤ 9 ∧ Hid (OwnH wq.heap.size wr xv R) ∧ Hid (Below wq.heap.size wq wr)) (fun _ iv _ => (intOf iv + 1).toNat)
      case atStart => exact ⟨Q.length, [], Nat.le_refl _, rfl, Lib.hid (by simp), by simp, Lib.hid (World.ownsRow_nil _ _ _ _), Lib.hid (Below.refl _ _)⟩
      case round =>
        obtain ⟨m, R, hm, rfl, HR, hrl, HX2, HB2⟩ := hrel
        obtain ⟨pr, cr, rfl⟩ := HX2.out.shape
        have hsz2 := HB2.out.size
        by_cases hm0 : m = 0
        · subst hm0
          have HE2 := Lib.hid (show R = PP from by rw [HR.out, HPB.out, List.drop_zero, HE.out])
          have hdt : decide ((0 : Int) ≤ ((0 : Nat) : Int) - 1) = false := by decide
          go_wp2_with fail
          go_ret2
          rw [← HE2.out]
          exact ⟨_, rfl, HX2.out.base (by omega), bnext (bnext HB0.out HBQ.out) HB2.out⟩
        · obtain ⟨m', rfl⟩ : ∃ m', m = m' + 1 := ⟨m - 1, by omega⟩
          have hml : m' < Q.length := by omega
          obtain ⟨gq, cq2, curq, hvq, h1, h2⟩ := own_block (HOQ.out wr HB2.out) (by omega)
          injection hvq with ea eb ec
          subst ea
          clear h1 h2 eb ec
          have c0 := World.ownsRow.cells (g := gq) (HOQ.out wr HB2.out) rfl m' (.int .i64 Q[m']) (by simp [ints, hml])
          rw [addr_add, Nat.zero_add] at c0
          have hmm : ((m' + 1 : Nat) : Int) - 1 = (m' : Int) := by omega
          have HT := Lib.hid (show R ++ [Q[m']] = (Q.drop m').reverse from by
            rw [List.drop_eq_getElem_cons hml, List.reverse_cons, HR.out])
          rw [hmm]
          generalize Q[m'] = y at *
          have k0 : (0 : Int) ≤ (m' : Int) := by omega
          have k1 : (m' : Int) < (Q.length : Int) := by omega
          have hdt : decide ((0 : Int) ≤ (m' : Int)) = true := decide_eq_true k0
          have hR9 : R.length + 1 ≤ 9 := by
            have := congrArg List.length HT.out
            simp at this
            omega
          clear hmm
          go_wp2_with (at_builtin; refine wpList_append_own _ rfl _ _ 43 rfl wq.heap.size 33 i0 (.int .i64 0) 1 8 Tryd.underlying43 hinf hz0 hz1 hz2 rfl (by decide) _ _ _ rfl (HX2.out.alloc _) ⟨wr.heap.size, 0, none⟩ 1 1 [.int .i64 y] rfl rfl ?a1 ?a2 ?a3 ?a4 ?a5 ?_)
          case a1 => exact news_one wr _ _
          case a2 => intro u hu; simp at hu; subst hu; rfl
          case a3 => unfold maxLen; first | omega | (simp; omega)
          case a4 => first | omega | (simp; omega)
          case a5 => simp; omega
          intro v' w3 hown3 hgrow3 _
          have HO := Lib.hid (show OwnH wq.heap.size w3 v' (R ++ [y]) by unfold OwnH; rw [← ints_snoc, List.length_append]; exact hown3)
          have HB3 := Lib.hid (show Below wq.heap.size wq w3 from (below_alloc HB2.out _).grown hgrow3 (by simp; omega) (fun g e => (HX2.out.lt g e).1))
          clear hown3 hgrow3
          go_wp2_with fail
          go_roundw
          case rel => exact ⟨m', R ++ [y], by omega, rfl, HT, by simp; omega, HO, HB3⟩
          case measure => simp [intOf]
end
end Go.Proofs.YtlcdbblbepndoaaDoor
namespace Go.Proofs.YtlcdbblbepndoaaDoor
open Go.RowKit Tr

section
variable {S : Nat → Prop} {A : Tab} {X : Sh} {k0 : Int} {s : TS} {g cap : Nat}

theorem rpath_any (hR : Rel A X) (w : World) (h : RD S w g cap (nl A X)) (x : Int) :
    Calls Tryd.prog 36 #[rtv k0 s g cap (nl A X).length, .int .i64 x] w fun e w' => ∃ p n c, e = .returned (.tuple #[.slice p n c, .int .i64 (getN A x)]) ∧ Below w.heap.size w w' := by
  cases hf : A.find x with
  | none =>
    refine (rpath_no hR w h x hf).mono ?_
    rintro e w' ⟨rfl, hb⟩
    exact ⟨_, _, _, by unfold getN; rw [hf], hb⟩
  | some i =>
    obtain ⟨hi, rfl⟩ := hR.found hf
    refine (rpath_yes hR w h i hi).mono ?_
    rintro e w' ⟨v, rfl, ho, hb⟩
    obtain ⟨p, c, rfl⟩ := ho.shape
    exact ⟨_, _, _, by unfold getN; rw [hf], hb⟩
theorem getN_cases (A : Tab) (x : Int) : (A.find x = none ∧ getN A x = 20) ∨ getN A x = 0 := by
  unfold getN
  cases A.find x with
  | none => exact .inl ⟨rfl, rfl⟩
  | some i => exact .inr rfl
set_option maxHeartbeats 1000000 in
theorem rcommon_no (hR : Rel A X) (w : World) (h : RD S w g cap (nl A X)) (x y : Int) (hf : A.find x = none ∨ A.find y = none) :
    Calls Tryd.prog 40 #[rtv k0 s g cap (nl A X).length, .int .i64 x, .int .i64 y] w fun e w' => e = .returned (.tuple #[.int .i64 0, .int .i64 20]) ∧ Below w.heap.size w w' := by
  have HP := Lib.hid (fun x W (hb : Below w.heap.size w W) => rpath_any (S := S) (k0 := k0) (s := s) hR W (h.below hb) x)
  have hxy : getN A x = 20 ∨ (getN A x = 0 ∧ getN A y = 20) := by
    rcases hf with hf | hf
    · left; unfold getN; rw [hf]
    · rcases getN_cases A x with ⟨_, e⟩ | e
      · exact .inl e
      · right; exact ⟨e, by unfold getN; rw [hf]⟩
  have hb0 : ∀ o, Below w.heap.size w (w.alloc o) := fun o => (Below.refl _ _).alloc (Nat.le_refl _) o
  obtain ⟨a, ha⟩ : ∃ a, a = getN A x := ⟨_, rfl⟩
  obtain ⟨b, hbb⟩ : ∃ b, b = getN A y := ⟨_, rfl⟩
  have HA := Lib.hid ha
  have HBB := Lib.hid hbb
  rw [← ha, ← hbb] at hxy
  generalize nl A X = L at *
  clear h hR hf ha hbb
  go_enter Tryd.func40, Tryd.ntmps40
  go_wp2_with fail
  have HK5 := Lib.hid (five_keep (w := w) (k0 := k0) (s := s) (g := g) (cap := cap) (n := L.length) (t := 31) (Below.refl _ _))
  have HB0 := Lib.hid (hb0 (.cells #[.int .i64 k0, .slice s.p s.n s.c, .slice s.q s.m s.d, .slice s.r s.l s.e, .slice (some ⟨g, 0, none⟩) L.length cap] 31))
  generalize w.alloc (.cells #[.int .i64 k0, .slice s.p s.n s.c, .slice s.q s.m s.d, .slice s.r s.l s.e, .slice (some ⟨g, 0, none⟩) L.length cap] 31) = W0 at *
  have HKEEP := Lib.hid (show ∀ W, Below W0.heap.size W0 W → (W.cell? ⟨w.heap.size, 0, none⟩ = some (.int .i64 k0) ∧ W.cell? ⟨w.heap.size, 1, none⟩ = some (.slice s.p s.n s.c) ∧ W.cell? ⟨w.heap.size, 2, none⟩ = some (.slice s.q s.m s.d) ∧ W.cell? ⟨w.heap.size, 3, none⟩ = some (.slice s.r s.l s.e) ∧ W.cell? ⟨w.heap.size, 4, none⟩ = some (.slice (some ⟨g, 0, none⟩) L.length cap) ∧ Below W0.heap.size W0 W) from fun W h =>
    ⟨(HK5.out W h).1, (HK5.out W h).2.1, (HK5.out W h).2.2.1, (HK5.out W h).2.2.2.1, (HK5.out W h).2.2.2.2, h⟩)
  obtain ⟨d0, d1, d2, d3, d4⟩ := HK5.out W0 (Below.refl _ _)
  clear hb0
  refine (HP.out _ _ HB0.out).mono ?_
  rintro e w1 ⟨p1, n1, c1, rfl, hb1⟩
  rw [← HA.out]
  obtain ⟨e0, e1, e2, e3, e4⟩ := HK5.out w1 hb1
  have hb2 := bnext HB0.out hb1
  clear d0 d1 d2 d3 d4
  go_wp2_with fail
  refine (HP.out _ _ hb2).mono ?_
  rintro e w2 ⟨p2, n2, c2, rfl, hb3⟩
  rw [← HBB.out]
  have hb4 := bnext hb2 hb3
  clear e0 e1 e2 e3 e4
  rcases hxy with hxy | ⟨hxy, hxy2⟩
  · subst hxy
    go_wp2_with fail
    go_ret2
    exact ⟨rfl, hb4⟩
  · subst hxy hxy2
    go_wp2_with fail
    go_ret2
    exact ⟨rfl, hb4⟩

set_option maxHeartbeats 2000000 in
set_option maxRecDepth 100000 in
theorem rcommon_yes (hR : Rel A X) (w : World) (h : RD S w g cap (nl A X)) (i j r : Nat) (hi : X.t i = true) (hj : X.t j = true) (hr : Low X i j r) :
    Calls Tryd.prog 40 #[rtv k0 s g cap (nl A X).length, .int .i64 (A.hd i), .int .i64 (A.hd j)] w fun e w' => e = .returned (.tuple #[.int .i64 (A.hd r), .int .i64 0]) ∧ Below w.heap.size w w' := by
  have HP := Lib.hid (fun W (hb : Below w.heap.size w W) => rpath_yes (S := S) (k0 := k0) (s := s) hR W (h.below hb) i hi)
  have HQ := Lib.hid (fun W (hb : Below w.heap.size w W) => rpath_yes (S := S) (k0 := k0) (s := s) hR W (h.below hb) j hj)
  have hb0 : ∀ o, Below w.heap.size w (w.alloc o) := fun o => (Below.refl _ _).alloc (Nat.le_refl _) o
  obtain ⟨P, hPd⟩ : ∃ P, P = X.path i := ⟨_, rfl⟩
  obtain ⟨Q, hQd⟩ : ∃ Q, Q = X.path j := ⟨_, rfl⟩
  have hP0 : P[0]? = some 0 := by rw [hPd]; exact path_first hR hi
  have hQ0 : Q[0]? = some 0 := by rw [hQd]; exact path_first hR hj
  have hP9 : P.length ≤ 9 := by rw [hPd, path_len]; have := hR.tree.d8 i hi; omega
  have hQ9 : Q.length ≤ 9 := by rw [hQd, path_len]; have := hR.tree.d8 j hj; omega
  have HIN := Lib.hid (show ∀ a ∈ P, ∀ b ∈ Q, A.hd a = A.hd b → a = b from fun a ha b hb e => hR.inj ((back_mem hR.tree i hi a (by rw [hPd] at ha; unfold Sh.path at ha; simpa using ha)).1) ((back_mem hR.tree j hj b (by rw [hQd] at hb; unfold Sh.path at hb; simpa using hb)).1) e)
  have HLOW := Lib.hid (show ∀ c, 0 < c → (∀ m, m < c → P[m]? = Q[m]? ∧ m < P.length) → (c = P.length ∨ c = Q.length ∨ P[c]? ≠ Q[c]?) → P[c - 1]? = some r from fun c h0 h1 h2 => by
    rw [hPd, hQd] at h1 h2; rw [hPd]; exact low_parts hR.tree hi hj hr h0 h1 h2)
  rw [← hPd] at HP
  rw [← hQd] at HQ
  obtain ⟨z, hz⟩ : ∃ z, z = A.hd r := ⟨_, rfl⟩
  rw [← hz]
  have HZ := Lib.hid hz
  generalize nl A X = L at *
  generalize A.hd i = yi at *
  generalize A.hd j = yj at *
  clear h hR hi hj hr hPd hQd hz
  go_enter Tryd.func40, Tryd.ntmps40
  go_wp2_with fail
  have HK5 := Lib.hid (five_keep (w := w) (k0 := k0) (s := s) (g := g) (cap := cap) (n := L.length) (t := 31) (Below.refl _ _))
  have HB0 := Lib.hid (hb0 (.cells #[.int .i64 k0, .slice s.p s.n s.c, .slice s.q s.m s.d, .slice s.r s.l s.e, .slice (some ⟨g, 0, none⟩) L.length cap] 31))
  generalize w.alloc (.cells #[.int .i64 k0, .slice s.p s.n s.c, .slice s.q s.m s.d, .slice s.r s.l s.e, .slice (some ⟨g, 0, none⟩) L.length cap] 31) = W0 at *
  have HKEEP := Lib.hid (show ∀ W, Below W0.heap.size W0 W → (W.cell? ⟨w.heap.size, 0, none⟩ = some (.int .i64 k0) ∧ W.cell? ⟨w.heap.size, 1, none⟩ = some (.slice s.p s.n s.c) ∧ W.cell? ⟨w.heap.size, 2, none⟩ = some (.slice s.q s.m s.d) ∧ W.cell? ⟨w.heap.size, 3, none⟩ = some (.slice s.r s.l s.e) ∧ W.cell? ⟨w.heap.size, 4, none⟩ = some (.slice (some ⟨g, 0, none⟩) L.length cap) ∧ Below W0.heap.size W0 W) from fun W h =>
    ⟨(HK5.out W h).1, (HK5.out W h).2.1, (HK5.out W h).2.2.1, (HK5.out W h).2.2.2.1, (HK5.out W h).2.2.2.2, h⟩)
  obtain ⟨d0, d1, d2, d3, d4⟩ := HK5.out W0 (Below.refl _ _)
  clear hb0
  refine (HP.out _ HB0.out).mono ?_
  rintro e w1 ⟨v1, rfl, ho1, hb1⟩
  obtain ⟨gp, cp, curp, hvp, h1, h2⟩ := own_block ho1 (by rw [List.length_map]; have := (List.getElem?_eq_some_iff.1 hP0).1; omega)
  rw [List.length_map] at hvp
  subst hvp
  clear h1 h2
  obtain ⟨e0, e1, e2, e3, e4⟩ := HK5.out w1 hb1
  have hb2 := bnext HB0.out hb1
  have HO1 := Lib.hid (fun W (hb : Below w1.heap.size w1 W) => ho1.below hb)
  clear d0 d1 d2 d3 d4 ho1
  go_wp2_with fail
  refine (HQ.out _ hb2).mono ?_
  rintro e w2 ⟨v2, rfl, ho2, hb3⟩
  obtain ⟨gq, cq, curq, hvq, h1, h2⟩ := own_block ho2 (by rw [List.length_map]; have := (List.getElem?_eq_some_iff.1 hQ0).1; omega)
  rw [List.length_map] at hvq
  subst hvq
  clear h1 h2
  have HB4 := Lib.hid (bnext hb2 hb3)
  have HCP := Lib.hid (fun W (hb : Below w2.heap.size w2 W) m (hm : m < P.length) => (HO1.out W (bnext hb3 hb)).cell m hm)
  have HCQ := Lib.hid (fun W (hb : Below w2.heap.size w2 W) m (hm : m < Q.length) => (ho2.below hb).cell m hm)
  have hpl : 0 < P.length := (List.getElem?_eq_some_iff.1 hP0).1
  have hpq : 0 < Q.length := (List.getElem?_eq_some_iff.1 hQ0).1
  have hpl' : (0 : Int) < (P.length : Int) := by omega
  have HP0 := Lib.hid hP0
  have HQ0 := Lib.hid hQ0
  have cp0 := HCP.out w2 (Below.refl _ _) 0 hpl
  obtain ⟨z0, hz0⟩ : ∃ z0, z0 = A.hd P[0] := ⟨_, rfl⟩
  rw [← hz0] at cp0
  clear e0 e1 e2 e3 e4 ho2 hb3 hP0 hQ0 hz0 hb2 hb1
  go_wp2_with fail
  go_loopw [12, 13] (fun hv iv wr => ∃ (k : Nat) (y : Int), k ≤ P.length ∧ k ≤ Q.length ∧ iv = .int .i64 k ∧ hv = .int .i64 y ∧ Hid (∀ m, m < k → P[m]? = Q[m]? ∧ m < P.length) ∧ Hid (0 < k → ∃ c, P[k - 1]? = some c ∧ y = A.hd c) ∧ Hid (Below w2.heap.size w2 wr)) (fun _ iv _ => P.length - (intOf iv).toNat)
  case atStart => exact ⟨0, z0, by omega, by omega, rfl, rfl, Lib.hid (fun m hm => by omega), Lib.hid (fun h => by omega), Lib.hid (Below.refl _ _)⟩
  case round =>
    clear cp0
    obtain ⟨k, y, hkp, hkq, rfl, rfl, HEQ, HY, HB⟩ := hrel
    have k0 : (0 : Int) ≤ (k : Int) := by omega
    have HEND := Lib.hid (show (k = P.length ∨ k = Q.length ∨ P[k]? ≠ Q[k]?) → z = y from fun h => by
      have hk0 : 0 < k := by
        rcases Nat.eq_zero_or_pos k with e | e
        · subst e
          rcases h with h | h | h
          · omega
          · omega
          · exact absurd (HP0.out.trans HQ0.out.symm) h
        · exact e
      obtain ⟨c, hc, hyc⟩ := HY.out hk0
      exact HZ.out.trans ((congrArg A.hd (Option.some.inj ((HLOW.out k hk0 HEQ.out h).symm.trans hc))).trans hyc.symm))
    by_cases hlp : k < P.length
    · have hlp' : (k : Int) < (P.length : Int) := by omega
      have hdp : decide (k < P.length) = true := decide_eq_true hlp
      have c1 := HCP.out wr HB.out k hlp
      by_cases hlq : k < Q.length
      · have hlq' : (k : Int) < (Q.length : Int) := by omega
        have hdq : decide (k < Q.length) = true := decide_eq_true hlq
        have c2 := HCQ.out wr HB.out k hlq
        by_cases he : P[k] = Q[k]
        · have hq : (A.hd P[k] == A.hd Q[k]) = true := by rw [he]; simp
          have HEQ2 := Lib.hid (show ∀ m, m < k + 1 → P[m]? = Q[m]? ∧ m < P.length from fun m hm => by
            by_cases e : m = k
            · subst e; exact ⟨by rw [List.getElem?_eq_getElem hlp, List.getElem?_eq_getElem hlq, he], hlp⟩
            · exact HEQ.out m (by omega))
          have HY2 := Lib.hid (show 0 < k + 1 → ∃ c, P[k + 1 - 1]? = some c ∧ A.hd P[k] = A.hd c from fun _ => ⟨P[k], List.getElem?_eq_getElem hlp, rfl⟩)
          generalize A.hd P[k] = u at *
          generalize A.hd Q[k] = v at *
          clear he HEND
          go_wp2_with fail
          go_quiet (fail)
          have HB5 := Lib.hid (show Below w2.heap.size w2 (wr.drewN nq) from below_drewN HB.out _)
          go_wp2_with fail
          go_roundw
          case rel => exact ⟨k + 1, u, by omega, by omega, by go_num, rfl, HEQ2, HY2, HB5⟩
          case measure => simp [intOf]; omega
        · have hq : (A.hd P[k] == A.hd Q[k]) = false := by
            rw [beq_eq_false_iff_ne]
            exact fun e => he (HIN.out _ (List.getElem_mem hlp) _ (List.getElem_mem hlq) e)
          have HYZ := Lib.hid (HEND.out (.inr (.inr (by rw [List.getElem?_eq_getElem hlp, List.getElem?_eq_getElem hlq]; exact fun e => he (Option.some.inj e)))))
          generalize A.hd P[k] = u at *
          generalize A.hd Q[k] = v at *
          clear he HEND
          go_wp2_with fail
          go_quiet (fail)
          have HB5 := Lib.hid (show Below w2.heap.size w2 (wr.drewN nq) from below_drewN HB.out _)
          go_wp2_with fail
          go_ret2
          rw [HYZ.out]
          exact ⟨rfl, bnext HB4.out HB5.out⟩
      · have hge : (Q.length : Int) ≤ (k : Int) := by omega
        have hdq : decide (k < Q.length) = false := decide_eq_false hlq
        have HYZ := Lib.hid (HEND.out (.inr (.inl (by omega))))
        generalize A.hd P[k] = u at *
        clear HEND hlq
        go_wp2_with fail
        go_quiet (fail)
        have HB5 := Lib.hid (show Below w2.heap.size w2 (wr.drewN nq) from below_drewN HB.out _)
        go_wp2_with fail
        go_ret2
        rw [HYZ.out]
        exact ⟨rfl, bnext HB4.out HB5.out⟩
    · have hge : (P.length : Int) ≤ (k : Int) := by omega
      have hdp : decide (k < P.length) = false := decide_eq_false hlp
      have HYZ := Lib.hid (HEND.out (.inl (by omega)))
      clear HEND hlp
      go_wp2_with fail
      go_quiet (fail)
      have HB5 := Lib.hid (show Below w2.heap.size w2 (wr.drewN nq) from below_drewN HB.out _)
      go_wp2_with fail
      go_ret2
      rw [HYZ.out]
      exact ⟨rfl, bnext HB4.out HB5.out⟩
end
end Go.Proofs.YtlcdbblbepndoaaDoor
