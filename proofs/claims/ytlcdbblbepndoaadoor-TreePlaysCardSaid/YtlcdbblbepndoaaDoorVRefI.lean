/- The document's own Add, where a node is added; no condition but those that each row names. -/
import Derived.Test.YtlcdbblbepndoaaDoorVRefH
namespace Go.Proofs.YtlcdbblbepndoaaDoor
open Go.RowKit Tr
theorem RD.cap {S : Nat → Prop} {w : World} {g cap : Nat} {L : List (Int × Int)} (h : RD S w g cap L) : L.length ≤ cap := by
  obtain ⟨g', c', e, h1, _⟩ := own_block2 h.own h.pos
  injection e with _ _ e3
  omega
theorem cells2_mid (L : List (Int × Int)) (q : Nat) (x : Int × Int) : cells2 (L.take q) ++ .int .i64 x.1 :: .int .i64 x.2 :: cells2 (L.drop q) = cells2 (L.take q ++ x :: L.drop q) := by
  rw [cells2_append]; rfl
section
variable {S : Nat → Prop} {A : Tab} {X : Sh} {s : TS} {g cap : Nat}
set_option maxHeartbeats 1000000 in
set_option maxRecDepth 100000 in
theorem raddT_yes (hR : Rel A X) (w : World) (h : RS S w A X s g cap) (p : Nat) (hp : X.t p = true) (hd : X.d p < 8) (hS : ∀ b, S b → b < w.heap.size) (q0 : Nat) (hf : A.free = some q0) :
    Calls Tryd.prog 7 #[rtv A.kind s g cap (nl A X).length, .int .i64 (A.hd p)] w (RPost S w (A.addAt q0 (A.hd p)) (X.add p q0) (.int .i64 (A.hd q0)) 0) := by
  have hb0 : ∀ o o', Below w.heap.size w ((w.alloc o).alloc o') := fun o o' => ((Below.refl w.heap.size w).alloc (Nat.le_refl _) o).alloc (by simp) o'
  obtain ⟨j, _, hj⟩ := place_of hR.tree hp
  have HP := Lib.hid (fun w1 (hb : Below w.heap.size w w1) => rplace_yes S A.kind s g cap _ w1 (h.rd.below hb) (A.hd p) j (nl_first hR hj))
  obtain ⟨hjl, hje⟩ := nl_at (A := A) hj
  have HC := Lib.hid (show ∀ w1, Below w.heap.size w w1 → w1.cell? ⟨g, j * 2 + 1, none⟩ = some (.int .i64 (X.d p : Nat)) from fun w1 hb => by
    have := ((h.rd.below hb).at j hjl).2
    rw [hje] at this
    exact this)
  have hj0 : (0 : Int) ≤ (j : Int) := by omega
  have hj1 : (j : Int) < ((nl A X).length : Int) := by omega
  have hj2 : decide ((j : Int) < 0) = false := decide_eq_false (by omega)
  have HS := Lib.hid h
  have HLL := Lib.hid (show (nl A X).length = (nl A X).length from rfl)
  have HAD := Lib.hid (fun w1 (hb : Below w.heap.size w w1 ∧ w.heap.size + 1 < w1.heap.size) => radd_some (fun x => S x ∨ x = w.heap.size + 1) (zA A) (zA_good hR) 0 q0 hf _ _ _ w1 ((h.rt.more (w.heap.size + 1) (by omega)).below hb.1) (fun b hb2 => by have := hb.1.size; have := hb.2; rcases hb2 with k | k; have := hS b k; omega; omega))
  obtain ⟨c, hRel⟩ := hR.add hp (by omega) hf
  obtain ⟨⟨he1, he2, he3⟩, he4, he5⟩ := nl_end hR hj
  have HEN := Lib.hid (fun w1 (hb : Below w.heap.size w w1) => rend_ok S A.kind s g cap _ w1 (h.rd.below hb) j _ he1 he4 he5 he2 he3)
  obtain ⟨q, hq1, hq2, hq3, hq4, hq5⟩ := nl_add hR c hj
  obtain ⟨E, hE⟩ : ∃ E, E = j + (X.pt p).length := ⟨_, rfl⟩
  rw [← hE] at HEN hq2 hq5 he5
  have HRD := Lib.hid (fun w1 (hb : Below w.heap.size w w1) => h.rd.below hb)
  have hsz64 : (nl A X).length ≤ 63 := hq3.2
  have HRel := Lib.hid hRel
  have HNL := Lib.hid hq3.1
  have HQ4 := Lib.hid hq4
  have HQ5 := Lib.hid hq5
  have HSB := Lib.hid hS
  have hsq : sOf (A.hd q0) = (q0 : Int) := (new_hd hR.good hf).2.2.1
  obtain ⟨n, hn⟩ : ∃ n, n = X.d p := ⟨_, rfl⟩
  rw [← hn] at HC hd HNL HQ4 HQ5
  obtain ⟨hq0v, hhq⟩ : ∃ z, z = A.hd q0 := ⟨_, rfl⟩
  have hzz : (zA A).hd q0 = hq0v := hhq.symm
  rw [hzz, zA_add A q0 (A.hd p)] at HAD
  rw [← hhq] at HNL hsq ⊢
  have hw1 : IntKind.i64.wrap ((n : Int) + 1) = (n : Int) + 1 := IntWalk.i64_in _ (by omega)
  have hd8 : decide ((8 : Int) < (n : Int) + 1) = false := decide_eq_false (by omega)
  obtain ⟨L, hL⟩ : ∃ L, L = nl A X := ⟨_, rfl⟩
  rw [← hL] at HP hj1 HEN HRD HNL HQ4 HQ5 hsz64 he5 ⊢
  have HLE := Lib.hid hL
  obtain ⟨k0, hk0⟩ : ∃ k0, k0 = A.kind := ⟨_, rfl⟩
  rw [← hk0] at HP HEN ⊢
  have HKE := Lib.hid hk0
  have hkz : (zA A).kind = k0 := by rw [hk0]; rfl
  rw [hkz] at HAD
  obtain ⟨Az, hAz⟩ : ∃ Az, Az = zA A := ⟨_, rfl⟩
  obtain ⟨Az2, hAz2⟩ : ∃ Az2, Az2 = zA (A.addAt q0 (A.hd p)) := ⟨_, rfl⟩
  rw [← hAz2] at HAD
  have HAZ := Lib.hid hAz2
  clear hAz hAz2
  clear h hR hp hd hf hkz hn hS hj hjl hje c hRel he1 he2 he3 hq3 hq4 hq5 hE hhq hzz hL HLL hk0
  generalize A.hd p = y at *
  go_enter Tryd.func7, Tryd.ntmps7
  go_wp2_with fail
  refine (HP.out _ (hb0 _ _)).mono ?_
  rintro e w1 ⟨rfl, hb1⟩
  obtain ⟨d0, d1, d2, d3, d4, z0, z1, z2, z3, z4, zf, zl⟩ := ten_of hb1
  have HB1 := Lib.hid (bnext (hb0 _ _) hb1)
  clear hb0
  have cj := HC.out w1 HB1.out
  have HTEN := Lib.hid (show ∀ W, Below w1.heap.size w1 W → Ten w W k0 s g cap L.length from fun W hb => (ten_of hb1).below hb)
  clear hb1
  go_wp2_with fail
  refine (HAD.out w1 ⟨HB1.out, zl⟩).mono ?_
  rintro e w2 ⟨gs2, ts2, ls2, rfl, hrt2, hb2⟩
  obtain ⟨p2, cp2, q2, cq2, r2, cr2, e1, e2, e3⟩ := hrt2.shapes
  subst e1 e2 e3
  have hTn := HTEN.out w2 hb2
  have HB2 := Lib.hid (bnext HB1.out hb2)
  have HB12 := Lib.hid hb2
  have HR2 := Lib.hid hrt2
  clear d0 d1 d2 d3 d4 z0 z1 z2 z3 z4 zf zl hrt2 hb2 cj
  obtain ⟨d0, d1, d2, d3, d4, z0, z1, z2, z3, z4, zf, zl⟩ := hTn
  have zl2 : w.heap.size < w2.heap.size := by omega
  go_upto_region 8 with fail
  have HT3 := Lib.hid (show ∀ W, Below (w2.alloc (.cells #[.int .i64 k0, .slice p2 Az2.gens.length cp2, .slice q2 Az2.taken.length cq2, .slice r2 Az2.list.length cr2] 28)).heap.size (w2.alloc (.cells #[.int .i64 k0, .slice p2 Az2.gens.length cp2, .slice q2 Az2.taken.length cq2, .slice r2 Az2.list.length cr2] 28)) W → Ten w W k0 s g cap L.length ∧ Box4 w2.heap.size W k0 (.slice p2 Az2.gens.length cp2) (.slice q2 Az2.taken.length cq2) (.slice r2 Az2.list.length cr2) from fun W hb =>
    ⟨HTEN.out W (bnext (below_alloc HB12.out _) hb), box4_of hb⟩)
  have HB3 := Lib.hid (below_alloc HB2.out (.cells #[.int .i64 k0, .slice p2 Az2.gens.length cp2, .slice q2 Az2.taken.length cq2, .slice r2 Az2.list.length cr2] 28))
  have HR3 := Lib.hid (HR2.out.below (show Below w2.heap.size w2 (w2.alloc (.cells #[.int .i64 k0, .slice p2 Az2.gens.length cp2, .slice q2 Az2.taken.length cq2, .slice r2 Az2.list.length cr2] 28)) from (Below.refl _ _).alloc (Nat.le_refl _) _))
  clear d0 d1 d2 d3 d4 z0 z1 z2 z3 z4 zf zl zl2
  generalize (w2.alloc (.cells #[.int .i64 k0, .slice p2 Az2.gens.length cp2, .slice q2 Az2.taken.length cq2, .slice r2 Az2.list.length cr2] 28)) = w3 at *
  generalize w2.heap.size = B2 at *
  have hTn := (HT3.out w3 (Below.refl _ _)).1
  obtain ⟨d0, d1, d2, d3, d4, z0, z1, z2, z3, z4, zf, zl⟩ := hTn
  go_wp2_with fail
  refine (HEN.out w3 HB3.out).mono ?_
  rintro e w4 ⟨rfl, hb4⟩
  have H4 := Lib.hid hb4
  clear d0 d1 d2 d3 d4 z0 z1 z2 z3 z4 zf zl hb4
  go_upto_block 0 with fail
  go_cut [12] (fun av wx => av = .int .i64 q ∧ Hid (Below w3.heap.size w3 wx))
  case first =>
    go_wp2_with fail
    go_loopw [12] (fun iv wr => ∃ k : Nat, iv = .int .i64 k ∧ j < k ∧ k ≤ q ∧ Hid (Below w3.heap.size w3 wr)) (fun iv _ => L.length - (intOf iv).toNat)
    case atStart => exact ⟨j + 1, by go_num, by omega, by omega, H4⟩
    case round =>
      obtain ⟨k, rfl, hjk, hkq, HB⟩ := hrel
      obtain ⟨d0, d1, d2, d3, d4, z0, z1, z2, z3, z4, zf, zl⟩ := (HT3.out wr HB.out).1
      clear z0 z1 z2 z3 z4 zf
      have hk0 : (0 : Int) ≤ (k : Int) := by omega
      by_cases e1 : k = q
      · by_cases e2 : q < E
        · obtain ⟨h6, h7, h8⟩ := HQ5.out e2
          subst e1
          have hkE : (k : Int) < (E : Int) := by omega
          have hkl' : (k : Int) < (L.length : Int) := by omega
          obtain ⟨c1, c2⟩ := (HRD.out wr (bnext HB3.out HB.out)).at k h6
          generalize L[k] = x at c1 c2 h7 h8
          obtain ⟨x1, x2⟩ := x
          have h7' : x2 = (n : Int) + 1 := by simpa using h7
          subst h7'
          have y3 : decide (sOf x1 < sOf hq0v) = false := decide_eq_false (by rw [hsq]; exact by simp only at h8; omega)
          have y4 : decide (sOf x1 < (q0 : Int)) = false := by rw [← hsq]; exact y3
          simp only at c1 c2
          clear h7 h8 e2 hkq
          go_wp2_with fail
          refine (rslot_any _ _).mono ?_
          rintro e w9 ⟨rfl, rfl⟩
          go_wp2_with fail
          refine (rslot_any _ _).mono ?_
          rintro e w9 ⟨rfl, rfl⟩
          go_wp2_with fail
          go_meet
          exact ⟨rfl, HB⟩
        · have hge : (E : Int) ≤ (k : Int) := by omega
          subst e1
          clear e2 hkq
          go_wp2_with fail
          go_meet
          exact ⟨rfl, HB⟩
      · have h6 : k < L.length := by omega
        have hkE : (k : Int) < (E : Int) := by omega
        have hkl' : (k : Int) < (L.length : Int) := by omega
        have h7 := HQ4.out k h6 hjk (by omega)
        obtain ⟨c1, c2⟩ := (HRD.out wr (bnext HB3.out HB.out)).at k h6
        generalize L[k] = x at c1 c2 h7
        obtain ⟨x1, x2⟩ := x
        simp only at c1 c2 h7
        by_cases h8 : x2 = (n : Int) + 1
        · subst h8
          have y3 : sOf x1 < sOf hq0v := by rw [hsq]; rcases h7 with h | h; exact absurd (by simp) h; exact h
          have y4 : sOf x1 < (q0 : Int) := by rw [← hsq]; exact y3
          clear h7
          go_wp2_with fail
          refine (rslot_any _ _).mono ?_
          rintro e w9 ⟨rfl, rfl⟩
          go_wp2_with fail
          refine (rslot_any _ _).mono ?_
          rintro e w9 ⟨rfl, rfl⟩
          go_wp2_with fail
          go_roundw
          case rel => exact ⟨k + 1, by go_num, by omega, by omega, HB⟩
          case measure => simp [intOf]; omega
        · have y2 : (x2 == (n : Int) + 1) = false := by simpa using h8
          have y2b : (x2 != (n : Int) + 1) = true := by simpa using h8
          clear h7
          go_wp2_with fail
          go_roundw
          case rel => exact ⟨k + 1, by go_num, by omega, by omega, HB⟩
          case measure => simp [intOf]; omega
  case rest =>
    obtain ⟨rfl, HC5⟩ := hcut
    have HRC := Lib.hid (HRD.out wc (bnext HB3.out HC5.out))
    have hcap := HRC.out.cap
    have zq0 : (0 : Int) ≤ (q : Int) := by omega
    have zq1 : (q : Int) ≤ (L.length : Int) := by omega
    have zq2 : (q : Int) ≤ (cap : Int) := by omega
    have zq3 : (L.length : Int) ≤ (cap : Int) := by omega
    obtain ⟨d0, d1, d2, d3, d4, z0, z1, z2, z3, z4, zf, zl⟩ := (HT3.out wc HC5.out).1
    clear z0 z1 z2 z3 z4 zf
    go_wp2_with (at_builtin; refine wpList_append_nds rfl _ _ rfl wc.heap.size (.slice none 0 0) 0 [] rfl (World.ownsRow_nil _ _ _ _) _ q (cells2 (L.take q)) rfl (src_head HRC.out.own (Below.refl _ _) q (by omega)) (cells2_one _) (by omega) (Nat.le_refl _) ?_)
    intro p5 c5 w5 ho1 hg1 ha1
    have hb1 : Below wc.heap.size wc w5 := (Below.refl _ _).grown hg1 (Nat.le_refl _) (fun k e => by simp [Value.ownBlock] at e)
    have HO1 := Lib.hid ho1
    have HB5 := Lib.hid hb1
    have HA1 := Lib.hid ha1
    clear ho1 hg1 ha1 hb1 d0 d1 d2 d3 d4 zl
    go_wp2_with (at_builtin; refine wpList_append_nds rfl _ _ rfl wc.heap.size (.slice p5 q c5) q (cells2 (L.take q)) rfl (HO1.out.kept (World.grownBy_alloc _ _ none) (Classical.em _)) _ 1 [.int .i64 hq0v, .int .i64 ((n : Int) + 1)] rfl (src_one w5 (hq0v, (n : Int) + 1) _) (by intro u hu; simp at hu; rcases hu with rfl | rfl <;> rfl) (by omega) (by have := HB5.out.size; simp; omega) ?_)
    intro p6 c6 w6 ho2 hg2 ha2
    have hb2 : Below wc.heap.size wc w6 := (HB5.out.alloc HB5.out.size _).grown hg2 (by have := HB5.out.size; simp; omega) (fun g e => by
      rcases HA1.out g e with h | h
      · simp [Value.ownBlock] at h
      · exact h)
    have hf2 : ∀ g, (Value.slice p6 (q + 1) c6).ownBlock = some g → wc.heap.size ≤ g := fun g e => by
      rcases ha2 g e with h | h
      · rcases HA1.out g h with h | h
        · simp [Value.ownBlock] at h
        · exact h
      · have := HB5.out.size
        omega
    have HO2 := Lib.hid ho2
    have HB6 := Lib.hid hb2
    have HF2 := Lib.hid hf2
    obtain ⟨d0, d1, d2, d3, d4, z0, z1, z2, z3, z4, zf, zl⟩ := (HT3.out w6 (bnext HC5.out hb2)).1
    clear ho2 hg2 ha2 hb2 hf2 z0 z1 z2 z3 z4 zf d0 d1 d2 d3
    go_wp2_with (at_builtin; refine wpList_append_nds rfl _ _ rfl wc.heap.size (.slice p6 (q + 1) c6) (q + 1) (cells2 (L.take q) ++ [.int .i64 hq0v, .int .i64 ((n : Int) + 1)]) rfl HO2.out _ (L.length - q) (cells2 (L.drop q)) rfl (src_tail_if HRC.out.own hcap HB6.out q (by omega)) (cells2_one _) (by omega) HB6.out.size ?_)
    all_goals
      intro p7 c7 w7 ho3 hg3 ha3
      have hb3 : Below wc.heap.size wc w7 := HB6.out.grown hg3 HB6.out.size (fun k e => HF2.out k e)
      have hT := HT3.out w7 (bnext HC5.out hb3)
      obtain ⟨d0, d1, d2, d3, d4', z0, z1, z2, z3, z4, zf, zl'⟩ := hT.1
      obtain ⟨b0, b1, b2, b3, bl⟩ := hT.2
      rw [show cells2 (List.take q L) ++ Value.int IntKind.i64 hq0v :: Value.int IntKind.i64 ((n : Int) + 1) :: cells2 (List.drop q L) = _ from cells2_mid L q (hq0v, (n : Int) + 1)] at ho3
      obtain ⟨g7, c7', e7, _, hg7, _⟩ := own_block2 ho3 (by omega)
      injection e7 with e7 _ e8
      subst e7 e8
      have HN7 := Lib.hid (own_base2 ho3 (Nat.zero_le _))
      have HG7 := Lib.hid (show w.heap.size + 1 < g7 from by have := HC5.out.size; have := (HT3.out w3 (Below.refl _ _)).1.lt; omega)
      have HB7 := Lib.hid (bnext HB3.out (bnext HC5.out hb3))
      have HR7 := Lib.hid (HR3.out.below (bnext HC5.out hb3))
      clear ho3 hg3 ha3 hb3 hT d0 d1 d2 d3 d4 d4' zl hg7
      go_wp2_with fail
      refine bodyPost_ret (v := .tuple #[rtv k0 ⟨p2, Az2.gens.length, cp2, q2, Az2.taken.length, cq2, r2, Az2.list.length, cr2⟩ g7 c7 (q + 1 + (L.length - q)), .int .i64 hq0v, .int .i64 0]) ?r1 rfl ?_
      case r1 => simp [results, Tryd.results7, go_sem, z0, z1, z2, z3, z4]
      have hln : (nl (A.addAt q0 y) (X.add p q0)).length = q + 1 + (L.length - q) := by rw [HNL.out]; simp; omega
      have := radd_fin (A := A.addAt q0 y) (X := X.add p q0) (s := ⟨p2, Az2.gens.length, cp2, q2, Az2.taken.length, cq2, r2, Az2.list.length, cr2⟩) (g := g7) (cap := c7) HSB.out (by rw [← HAZ.out]; exact HR7.out)
        (by
          have h := HN7.out
          rw [show (hq0v, (n : Int) + 1) = (hq0v, ((n + 1 : Nat) : Int)) by simp, ← HNL.out, ← hln] at h
          exact h) HG7.out (by omega) (by omega) HB7.out (.int .i64 hq0v) 0
      rw [hln, show (A.addAt q0 y).kind = k0 from HKE.out.symm] at this
      exact this _ _ _ _ _
end
end Go.Proofs.YtlcdbblbepndoaaDoor
namespace Go.Proofs.YtlcdbblbepndoaaDoor
open Go.RowKit Tr
section
variable {S : Nat → Prop} {A : Tab} {X : Sh} {s : TS} {g cap : Nat}
set_option maxHeartbeats 1000000 in
theorem rremT_no (hR : Rel A X) (w : World) (h : RS S w A X s g cap) (x : Int) (hf : A.find x = none) :
    Calls Tryd.prog 10 #[rtv A.kind s g cap (nl A X).length, .int .i64 x] w (RPost S w A X (.slice none 0 0) 20) := by
  have hb0 : ∀ o o', Below w.heap.size w ((w.alloc o).alloc o') := fun o o' => ((Below.refl w.heap.size w).alloc (Nat.le_refl _) o).alloc (by simp) o'
  have HP := Lib.hid (fun w1 (hb : Below w.heap.size w w1) => rplace_no S A.kind s g cap _ w1 (h.rd.below hb) x (nl_none hR hf))
  have HS := Lib.hid h
  obtain ⟨L, hL⟩ : ∃ L, L = nl A X := ⟨_, rfl⟩
  rw [← hL] at HP ⊢
  have HLE := Lib.hid hL
  obtain ⟨k0, hk0⟩ : ∃ k0, k0 = A.kind := ⟨_, rfl⟩
  rw [← hk0] at HP ⊢
  have HKE := Lib.hid hk0
  clear h hR hf hL hk0
  go_enter Tryd.func10, Tryd.ntmps10
  go_wp2_with fail
  refine (HP.out _ (hb0 _ _)).mono ?_
  rintro e w1 ⟨rfl, hb1⟩
  obtain ⟨d0, d1, d2, d3, d4, z0, z1, z2, z3, z4, zf, zl⟩ := ten_of hb1
  have HB1 := Lib.hid (bnext (hb0 _ _) hb1)
  clear hb1 hb0
  go_wp2_with fail
  refine bodyPost_ret (v := .tuple #[rtv k0 s g cap L.length, .slice none 0 0, .int .i64 20]) ?r1 rfl ?_
  case r1 => simp [results, Tryd.results10, go_sem, z0, z1, z2, z3, z4]
  have := rpost_same HS.out HB1.out (.slice none 0 0) 20
  rw [← HLE.out, ← HKE.out] at this
  exact this _ _ _ _ _
set_option maxHeartbeats 1000000 in
theorem rremT_root (hR : Rel A X) (w : World) (h : RS S w A X s g cap) :
    Calls Tryd.prog 10 #[rtv A.kind s g cap (nl A X).length, .int .i64 (A.hd 0)] w (RPost S w A X (.slice none 0 0) 91) := by
  have hb0 : ∀ o o', Below w.heap.size w ((w.alloc o).alloc o') := fun o o' => ((Below.refl w.heap.size w).alloc (Nat.le_refl _) o).alloc (by simp) o'
  have hj : (X.pt 0)[0]? = some 0 := by rw [pt_eq hR.tree hR.tree.t0]; rfl
  have HP := Lib.hid (fun w1 (hb : Below w.heap.size w w1) => rplace_yes S A.kind s g cap _ w1 (h.rd.below hb) (A.hd 0) 0 (nl_first hR hj))
  have HS := Lib.hid h
  obtain ⟨L, hL⟩ : ∃ L, L = nl A X := ⟨_, rfl⟩
  rw [← hL] at HP ⊢
  have HLE := Lib.hid hL
  obtain ⟨k0, hk0⟩ : ∃ k0, k0 = A.kind := ⟨_, rfl⟩
  rw [← hk0] at HP ⊢
  have HKE := Lib.hid hk0
  clear h hR hj hL hk0
  generalize A.hd 0 = y at *
  go_enter Tryd.func10, Tryd.ntmps10
  go_wp2_with fail
  refine (HP.out _ (hb0 _ _)).mono ?_
  rintro e w1 ⟨rfl, hb1⟩
  obtain ⟨d0, d1, d2, d3, d4, z0, z1, z2, z3, z4, zf, zl⟩ := ten_of hb1
  have HB1 := Lib.hid (bnext (hb0 _ _) hb1)
  clear hb1 hb0
  go_wp2_with fail
  refine bodyPost_ret (v := .tuple #[rtv k0 s g cap L.length, .slice none 0 0, .int .i64 91]) ?r1 rfl ?_
  case r1 => simp [results, Tryd.results10, go_sem, z0, z1, z2, z3, z4]
  have := rpost_same HS.out HB1.out (.slice none 0 0) 91
  rw [← HLE.out, ← HKE.out] at this
  exact this _ _ _ _ _
end
end Go.Proofs.YtlcdbblbepndoaaDoor
