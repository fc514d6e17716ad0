/- The document's own Remove, where nodes go; no condition but those that each row names. -/
import Derived.Test.YtlcdbblbepndoaaDoorVRefK
import Derived.Maps.AppendAt
namespace Go.Proofs.YtlcdbblbepndoaaDoor
open Go.RowKit Tr
theorem RemL.dropCall {S : Nat → Prop} {R B2 : Nat} {w3 w5 : World} {k0 : Int} {A' : Tab} {t : TS} {gv : Value} {Q : List Int} (h : RemL S R B2 w3 w5 k0 (zA A') t gv Q) (hg : A'.Good) (hl : A'.gens.length = 64) (hk : A'.kind = k0) {x : Int} {i : Nat} (hf : A'.find x = some i) :
    Calls Tryd.prog 29 #[rv k0 (.slice t.p t.n t.c) (.slice t.q t.m t.d) (.slice t.r t.l t.e), .int .i64 x] w5 fun e w' => ∃ t2 : TS, e = .returned (.tuple #[rv k0 (.slice t2.p t2.n t2.c) (.slice t2.q t2.m t2.d) (.slice t2.r t2.l t2.e), .int .i64 0]) ∧
      RT (fun x => ((S x ∨ x = R) ∨ x = B2) ∨ gv.ownBlock = some x) w' (zA (A'.dropAt i)) (.slice t2.p t2.n t2.c) (.slice t2.q t2.m t2.d) (.slice t2.r t2.l t2.e) ∧ Below w5.heap.size w5 w' := by
  have := rdrop_some (fun x => ((S x ∨ x = R) ∨ x = B2) ∨ gv.ownBlock = some x) (zA A') (zA_goodD hg hl) x i hf _ _ _ w5 h.rt (fun b hb => by
    rcases hb with hb | hb
    · exact Nat.lt_of_lt_of_le (h.lt b hb) h.k.size
    · exact (World.ownsRow.lt h.o b hb).2)
  rw [show (zA A').kind = k0 from hk] at this
  refine this.mono ?_
  rintro e w' ⟨gs, ts, ls, rfl, hrt, hb⟩
  rw [zA_drop] at hrt ⊢
  obtain ⟨p, cp, q, cq, r, cr, rfl, rfl, rfl⟩ := hrt.shapes
  refine ⟨⟨p, (zA (A'.dropAt i)).gens.length, cp, q, (zA (A'.dropAt i)).taken.length, cq, r, (zA (A'.dropAt i)).list.length, cr⟩, ?_, hrt, hb⟩
  rw [show (zA (A'.dropAt i)).kind = k0 from hk]
section
variable {S : Nat → Prop} {A : Tab} {X : Sh} {s : TS} {g cap : Nat}
set_option maxHeartbeats 1000000 in
set_option maxRecDepth 100000 in
theorem rremT_yes (hR : Rel A X) (w : World) (h : RS S w A X s g cap) (p : Nat) (hp : X.t p = true) (h0 : p ≠ 0) (hS : ∀ b, S b → b < w.heap.size) :
    Calls Tryd.prog 10 #[rtv A.kind s g cap (nl A X).length, .int .i64 (A.hd p)] w (RRem S w (dropAll A (X.pt p)) (X.rem p) ((X.pt p).map A.hd)) := by
  obtain ⟨i0, hinf, hz0, hz1, hz2⟩ := info_parts Tryd.info33
  have hb0 : ∀ o o', Below w.heap.size w ((w.alloc o).alloc o') := fun o o' => ((Below.refl w.heap.size w).alloc (Nat.le_refl _) o).alloc (by simp) o'
  obtain ⟨j, _, hj⟩ := place_of hR.tree hp
  have HP := Lib.hid (fun w1 (hb : Below w.heap.size w w1) => rplace_yes S A.kind s g cap _ w1 (h.rd.below hb) (A.hd p) j (nl_first hR hj))
  have hj0 : (0 : Int) ≤ (j : Int) := by omega
  have hjn : j ≠ 0 := by
    rintro rfl
    rw [pt_eq hR.tree hR.tree.t0] at hj
    exact h0 (by simpa using hj.symm)
  have hj2 : decide ((j : Int) < 0) = false := decide_eq_false (by omega)
  have hj3 : ((j : Int) == 0) = false := by simpa using hjn
  have HS := Lib.hid h
  obtain ⟨⟨he1, he2, he3⟩, he4, he5⟩ := nl_end hR hj
  have HEN := Lib.hid (fun w1 (hb : Below w.heap.size w w1) => rend_ok S A.kind s g cap _ w1 (h.rd.below hb) j _ he1 he4 he5 he2 he3)
  have HAT := Lib.hid (fun i h1 h2 => rem_at hR hj i h1 h2)
  have HNL := Lib.hid (rem_nl hR hp h0 hj)
  have hl64 : (nl A X).length ≤ 64 := by rw [nl_len]; exact pt_len hR.tree hR.tree.t0
  have HN := Lib.hid (pt_nodup hR.tree p hp)
  have HM := Lib.hid (show ∀ x ∈ X.pt p, x < A.gens.length ∧ A.t x = true from fun x hx => by
    have hx' := (pt_back hR.tree p hp x hx).1
    exact ⟨hR.lt hx', by rw [hR.t]; exact hx'⟩)
  have HG := Lib.hid hR.good
  have HL64 := Lib.hid hR.len
  have HRD := Lib.hid (fun w1 (hb : Below w.heap.size w w1) => (h.rd.below hb).own)
  have hgl := h.rd.lt
  have hcap := h.rd.cap
  obtain ⟨P, hP⟩ : ∃ P, P = X.pt p := ⟨_, rfl⟩
  rw [← hP] at HEN HAT HNL HN HM he4 he5 ⊢
  obtain ⟨E, hE⟩ : ∃ E, E = j + P.length := ⟨_, rfl⟩
  rw [← hE] at HEN HAT HNL he4 he5
  obtain ⟨L, hL⟩ : ∃ L, L = nl A X := ⟨_, rfl⟩
  rw [← hL] at HP HEN HAT HNL hl64 he5 hcap HRD ⊢
  have HLE := Lib.hid hL
  obtain ⟨k0, hk0⟩ : ∃ k0, k0 = A.kind := ⟨_, rfl⟩
  rw [← hk0] at HP HEN ⊢
  have HKE := Lib.hid hk0
  have HSB := Lib.hid hS
  have hPE : P.length = E - j := by omega
  clear h hR hj hp h0 he1 he2 he3 hL hk0 hS hP hE
  generalize A.hd p = y at *
  go_enter Tryd.func10, Tryd.ntmps10
  go_wp2_with fail
  refine (HP.out _ (hb0 _ _)).mono ?_
  rintro e w1 ⟨rfl, hb1⟩
  obtain ⟨d0, d1, d2, d3, d4, z0, z1, z2, z3, z4, zf, zl⟩ := ten_of hb1
  have HB1 := Lib.hid (bnext (hb0 _ _) hb1)
  clear hb0
  have HTEN := Lib.hid (show ∀ W, Below w1.heap.size w1 W → Ten w W k0 s g cap L.length from fun W hb => (ten_of hb1).below hb)
  clear hb1
  go_wp2_with fail
  refine (HEN.out w1 HB1.out).mono ?_
  rintro e w2 ⟨rfl, hb2⟩
  have hTn := HTEN.out w2 hb2
  have HB2 := Lib.hid (bnext HB1.out hb2)
  have HB12 := Lib.hid hb2
  clear d0 d1 d2 d3 d4 z0 z1 z2 z3 z4 zf zl hb2
  obtain ⟨d0, d1, d2, d3, d4, z0, z1, z2, z3, z4, zf, zl⟩ := hTn
  have zl2 : w.heap.size < w2.heap.size := by omega
  go_upto_block 0 with fail
  have HB3 := Lib.hid (below_alloc HB2.out (.cells #[.int .i64 k0, .slice s.p s.n s.c, .slice s.q s.m s.d, .slice s.r s.l s.e] 28))
  have HTK := Lib.hid (show ∀ W, Keeps (fun b => b = w2.heap.size) (w2.alloc (.cells #[.int .i64 k0, .slice s.p s.n s.c, .slice s.q s.m s.d, .slice s.r s.l s.e] 28)) W → Ten w W k0 s g cap L.length from fun W hk => (HTEN.out _ (below_alloc HB12.out _)).keeps hk (by omega) (by omega))
  have HNK := Lib.hid (show ∀ W, Keeps (fun b => b = w2.heap.size) (w2.alloc (.cells #[.int .i64 k0, .slice s.p s.n s.c, .slice s.q s.m s.d, .slice s.r s.l s.e] 28)) W → Nds W (.slice (some ⟨g, 0, none⟩) L.length cap) L from fun W hk => own_keep (HRD.out _ HB3.out) hk (fun b e => by simp [Value.ownBlock] at e; omega))
  have HL0 := Lib.hid (show RemL S (w.heap.size + 1) w2.heap.size (w2.alloc (.cells #[.int .i64 k0, .slice s.p s.n s.c, .slice s.q s.m s.d, .slice s.r s.l s.e] 28)) (w2.alloc (.cells #[.int .i64 k0, .slice s.p s.n s.c, .slice s.q s.m s.d, .slice s.r s.l s.e] 28)) k0 (zA (dropAll A (P.take 0))) s (.slice none 0 0) [] from
    ⟨box4_of (Below.refl _ _), fun j => by simp, ((((HS.out.rt.more (w.heap.size + 1) (by omega)).below HB2.out).more w2.heap.size (Nat.le_refl _)).below (show Below w2.heap.size w2 (w2.alloc (.cells #[.int .i64 k0, .slice s.p s.n s.c, .slice s.q s.m s.d, .slice s.r s.l s.e] 28)) from (Below.refl _ _).alloc (Nat.le_refl _) _)).mono (fun b _ k => by
      rcases k with k | k
      · exact k
      · simp [Value.ownBlock] at k), World.ownsRow_nil _ _ _ _, Keeps.refl _ _, fun x hx => by
      rcases hx with (hx | hx) | hx
      · have := HSB.out x hx; simp; omega
      · simp; omega
      · simp; omega⟩)
  have hB2 : w.heap.size + 1 < w2.heap.size := zl
  clear d0 d1 d2 d3 d4 z0 z1 z2 z3 z4 zf zl zl2
  generalize (w2.alloc (.cells #[.int .i64 k0, .slice s.p s.n s.c, .slice s.q s.m s.d, .slice s.r s.l s.e] 28)) = w3 at *
  generalize w2.heap.size = B2 at *
  go_cut [10, 11] (fun gv iv wx => ∃ t : TS, Hid (RemL S (w.heap.size + 1) B2 w3 wx k0 (zA (dropAll A P)) t gv (P.map A.hd)))
  case first =>
    go_wp2_with fail
    go_loopw [10, 11] (fun gv iv wr => ∃ (i : Nat) (t : TS) (Q : List Int), j ≤ i ∧ i ≤ E ∧ iv = .int .i64 i ∧ Hid (Q = (P.take (i - j)).map A.hd) ∧ Q.length ≤ i ∧ Hid (RemL S (w.heap.size + 1) B2 w3 wr k0 (zA (dropAll A (P.take (i - j)))) t gv Q)) (fun _ iv _ => L.length - (intOf iv).toNat)
    case atStart => exact ⟨j, s, [], Nat.le_refl _, by omega, rfl, Lib.hid (by simp), Nat.zero_le _, by rw [Nat.sub_self]; exact HL0⟩
    case round =>
      obtain ⟨i, t, Q, hji, hiE, rfl, HQ, hql, HL⟩ := hrel
      have hi0 : (0 : Int) ≤ (i : Int) := by omega
      obtain ⟨px, cx, hgv⟩ := HL.out.o.shape
      subst hgv
      by_cases hlt : i < E
      · obtain ⟨hiL, hip, hie⟩ := HAT.out i hji hlt
        have hi1 : (i : Int) < (L.length : Int) := by omega
        have hi2 : (i : Int) < (E : Int) := by omega
        have HC0 := Lib.hid (show ∀ W, Keeps (fun b => b = B2) w3 W → W.cell? ⟨g, i * 2, none⟩ = some (.int .i64 (A.hd P[i - j])) from fun W hk => by
          have := ((HNK.out W hk).cells i hiL).1
          rw [hie] at this
          exact this)
        have hm := HM.out P[i - j] (List.getElem_mem hip)
        have hD := dropped_take HG.out HN.out HM.out (i - j) (by omega)
        have hf := hD.find HG.out (take_not HN.out hip) hm.1 hm.2
        have e1 : P.take (i + 1 - j) = P.take (i - j) ++ [P[i - j]] := by rw [show i + 1 - j = i - j + 1 by omega, List.take_succ_eq_append_getElem hip]
        have HE1 := Lib.hid (show (dropAll A (P.take (i - j))).dropAt P[i - j] = dropAll A (P.take (i + 1 - j)) from by rw [e1, dropAll_snoc])
        have HQ1 := Lib.hid (show Q ++ [A.hd P[i - j]] = (P.take (i + 1 - j)).map A.hd from by rw [e1, List.map_append, HQ.out]; rfl)
        have HDC := Lib.hid (fun gv' w5 (h5 : RemL S (w.heap.size + 1) B2 w3 w5 k0 (zA (dropAll A (P.take (i - j)))) t gv' (Q ++ [A.hd P[i - j]])) => h5.dropCall hD.good (hD.len.trans HL64.out) (hD.k.trans HKE.out.symm) hf)
        rw [HE1.out] at HDC
        obtain ⟨Az, hAz⟩ : ∃ Az, Az = zA (dropAll A (P.take (i - j))) := ⟨_, rfl⟩
        obtain ⟨Az2, hAz2⟩ : ∃ Az2, Az2 = zA (dropAll A (P.take (i + 1 - j))) := ⟨_, rfl⟩
        rw [← hAz] at HDC HL
        rw [← hAz2] at HDC
        have HAZ2 := Lib.hid hAz2
        clear hm hD hf e1 HE1 hAz hAz2 hie
        generalize A.hd P[i - j] = z at *
        have hsz := HL.out.k.size
        have c0 := HC0.out _ HL.out.k
        obtain ⟨d0, d1, d2, d3, d4, z0, z1, z2, z3, z4, zf, zl⟩ := HTK.out _ HL.out.k
        clear z0 z1 z2 z3 z4 zf d0 d1 d2 d3
        go_wp2_with (at_builtin; refine wpList_append_own_at _ rfl _ _ 43 rfl w3.heap.size 33 i0 (.int .i64 0) 1 8 Tryd.underlying43 hinf hz0 hz1 hz2 rfl (by decide) _ _ _ rfl (World.ownsRow.alloc HL.out.o _) ⟨wr.heap.size, 0, none⟩ 1 1 [.int .i64 z] rfl rfl ?a1 ?a2 ?a3 ?a4 ?a5 ?_)
        case a1 => exact news_one wr _ _
        case a2 => intro u hu; simp at hu; subst hu; rfl
        case a3 => unfold maxLen; first | omega | (simp; omega)
        case a4 => first | omega | (simp; omega)
        case a5 => simp; omega
        intro gv2 w5 hown5 hgrow5 _ hat5
        have HL5 := Lib.hid (HL.out.push hown5 hgrow5 hat5)
        have HL5d := Lib.hid (HL5.out.under below_drewOne)
        have HC5 := Lib.hid (HDC.out gv2 w5.drew HL5d.out)
        clear hown5 hgrow5 hat5 c0 d4 zl
        obtain ⟨d0, d1, d2, d3, d4, z0, z1, z2, z3, z4, zf, zl⟩ := HTK.out _ HL5.out.k
        clear z0 z1 z2 z3 z4 zf d0 d1 d2 d3
        have c0 := HC0.out _ HL5.out.k
        obtain ⟨b0, b1, b2, b3, bl⟩ := HL5.out.b
        have bf := HL5.out.fz
        go_upto_region 13 with fail
        go_region_with ((go_at_call 29; refine HC5.out.mono ?_; rintro e w6 ⟨t2, rfl, hrt6, hb6⟩; have HL6 := Lib.hid (HL5d.out.under hb6); have HL7 := Lib.hid (HL6.out.drop hrt6); clear hrt6 hb6; obtain ⟨y0, y1, y2, y3, yl⟩ := HL6.out.b; have yf := HL6.out.fz))
        all_goals
          go_wp2_with fail
          go_roundw
          case rel => exact ⟨i + 1, t2, Q ++ [z], by omega, by omega, by go_num, HQ1, by simp; omega, by rw [← HAZ2.out]; exact HL7⟩
          case measure => simp [intOf]; omega
      · have hge : (E : Int) ≤ (i : Int) := by omega
        have HL7 := Lib.hid (show RemL S (w.heap.size + 1) B2 w3 wr k0 (zA (dropAll A P)) t (.slice px Q.length cx) (P.map A.hd) from by
          have h := HL.out
          rw [List.take_of_length_le (by omega)] at h
          rw [show P.map A.hd = Q by rw [HQ.out, List.take_of_length_le (by omega)]]
          exact h)
        go_wp2_with fail
        go_meet
        exact ⟨t, HL7⟩
  case rest =>
    obtain ⟨t, HL⟩ := hcut
    have HRC := Lib.hid (HNK.out wc HL.out.k)
    have zq1 : (j : Int) ≤ (L.length : Int) := by omega
    have zq2 : (j : Int) ≤ (cap : Int) := by omega
    have zq3 : (L.length : Int) ≤ (cap : Int) := by omega
    have zq4 : (E : Int) ≤ (L.length : Int) := by omega
    have zq5 : (0 : Int) ≤ (E : Int) := by omega
    obtain ⟨d0, d1, d2, d3, d4, z0, z1, z2, z3, z4, zf, zl⟩ := HTK.out wc HL.out.k
    clear z0 z1 z2 z3 z4 zf d0 d1 d2 d3
    go_wp2_with (at_builtin; refine wpList_append_nds rfl _ _ rfl wc.heap.size (.slice none 0 0) 0 [] rfl (World.ownsRow_nil _ _ _ _) _ j (cells2 (L.take j)) rfl (src_head HRC.out (Below.refl _ _) j (by omega)) (cells2_one _) (by omega) (Nat.le_refl _) ?_)
    intro p5 c5 w5 ho1 hg1 ha1
    have hb1 : Below wc.heap.size wc w5 := (Below.refl _ _).grown hg1 (Nat.le_refl _) (fun k e => by simp [Value.ownBlock] at e)
    have hf1 : ∀ g, (Value.slice p5 j c5).ownBlock = some g → wc.heap.size ≤ g := fun g e => by rcases ha1 g e with h | h; simp [Value.ownBlock] at h; exact h
    have HO1 := Lib.hid ho1
    have HB5 := Lib.hid hb1
    have HF1 := Lib.hid hf1
    clear ho1 hg1 ha1 hb1 hf1 d4 zl
    obtain ⟨d0, d1, d2, d3, d4, z0, z1, z2, z3, z4, zf, zl⟩ := HTK.out w5 (HL.out.under HB5.out).k
    clear z0 z1 z2 z3 z4 zf d0 d1 d2 d3
    go_wp2_with (at_builtin; refine wpList_append_nds rfl _ _ rfl wc.heap.size (.slice p5 j c5) j (cells2 (L.take j)) rfl HO1.out _ (L.length - E) (cells2 (L.drop E)) rfl (src_tail_if HRC.out hcap HB5.out E he5) (cells2_one _) (by omega) HB5.out.size ?_)
    all_goals
      intro p7 c7 w7 ho3 hg3 ha3
      have hb3 : Below wc.heap.size wc w7 := HB5.out.grown hg3 HB5.out.size (fun k e => HF1.out k e)
      have HL7 := Lib.hid (HL.out.under hb3)
      obtain ⟨d0, d1, d2, d3, d4', z0, z1, z2, z3, z4, zf, zl'⟩ := HTK.out w7 HL7.out.k
      obtain ⟨b0, b1, b2, b3, bl⟩ := HL7.out.b
      rw [← cells2_append] at ho3
      obtain ⟨g7, c7', e7, _, hg7, _⟩ := own_block2 ho3 (by omega)
      injection e7 with e7 _ e8
      subst e7 e8
      have HN7 := Lib.hid (own_base2 ho3 (Nat.zero_le _))
      have HW3 := Lib.hid (show w.heap.size + 1 < w3.heap.size from by have := HL7.out.lt B2 (.inr rfl); omega)
      have HG7 := Lib.hid (show w.heap.size + 1 < g7 from by have := HL.out.k.size; have := HW3.out; omega)
      have HB7 := Lib.hid (show Below w.heap.size w w7 from below_keeps HB3.out HL7.out.k (fun b e => by omega))
      clear ho3 hg3 ha3 hb3 d0 d1 d2 d3 d4 d4' zl hg7
      go_wp2_with fail
      refine bodyPost_ret (v := .tuple #[rtv k0 t g7 c7 (j + (L.length - E)), u10, .int .i64 0]) ?r1 rfl ?_
      case r1 => simp [results, Tryd.results10, go_sem, z0, z1, z2, z3, z4]
      have hln : (nl (dropAll A P) (X.rem p)).length = j + (L.length - E) := by rw [HNL.out]; simp; omega
      have hkd : (dropAll A P).kind = k0 := by
        have := (dropped_take HG.out HN.out HM.out _ (Nat.le_refl _)).k
        rw [List.take_length] at this
        rw [this, HKE.out]
      have := fun r u0 u1 u2 u3 u4 => radd_fin (A := dropAll A P) (X := X.rem p) (s := t) (g := g7) (cap := c7) HSB.out (HL7.out.rt.mono fun b _ k => .inl (.inl k))
        (by
          have h := HN7.out
          rw [← HNL.out, ← hln] at h
          exact h) HG7.out (by omega) (by omega) HB7.out r 0 u0 u1 u2 u3 u4
      rw [hln, hkd] at this
      exact ⟨_, (HL7.out.o.keeps (keeps5 w7 (w.heap.size + 1) _ _ _ _ _) (fun x e => by have := HW3.out; omega)).base (by have := HW3.out; omega), this _ _ _ _ _ _⟩
end
end Go.Proofs.YtlcdbblbepndoaaDoor
