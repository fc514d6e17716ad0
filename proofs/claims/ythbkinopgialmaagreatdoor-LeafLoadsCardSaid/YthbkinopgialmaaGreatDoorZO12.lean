/- Texts of stages 3, 4, 12 and 13 that stand together: ZLawLoads QOpens UOpenT ZOpens3; no condition but those that each row names. -/
import Derived.Test.YthbkinopgialmaaGreatDoorZO2
import Derived.Test.YthbkinopgialmaaGreatDoorZO5
import Derived.Test.YthbkinopgialmaaGreatDoorZO11
import Derived.OpenShut
import Derived.Deep.Slices
import Derived.ChangeSame
import Derived.ChangeMaps5
import Derived.SizedLaws
import Derived.Lib.SmallJoins
/- The walk of the law LeafLoads: it answers true whatever is laid, whatever is done behind it; no condition but the listed variable, and that the tasks are no more than memory holds. -/
namespace Go.Proofs.YthbkinopgialmaaGreatDoor
open Go.RowKit Tsk

abbrev LaidT : TypeId := 44
def Has3 (W : World) (g : Nat) (a b c : Value) : Prop := Has W g (.cells #[a, b, c] LaidT (0, 0))
theorem Has3.cells {W : World} {g : Nat} {a b c : Value} (x : Has3 W g a b c) : W.cell? ⟨g, 0, none⟩ = some a ∧ W.cell? ⟨g, 1, none⟩ = some b ∧ W.cell? ⟨g, 2, none⟩ = some c :=
  ⟨(has_cell x 0).trans rfl, (has_cell x 1).trans rfl, (has_cell x 2).trans rfl⟩
theorem Has3.below {W W' : World} {g : Nat} {a b c : Value} (h : Has3 W g a b c) (hb : Below W.heap.size W W') : Has3 W' g a b c := (hb.block g (has_lt h)).trans h
theorem tasks_jx {X : Nat → Prop} {w W : World} {v : Value} {m : Nat} {TT : Nat → Tk} (h : Tasks w v m TT) (hX : ∀ x, X x → w.heap.size ≤ x) (hb : Below w.heap.size w W) {j : Nat} (hj : j < m) : JobsX X W (TT j).s (TT j).n (TT j).f := by
  obtain ⟨_, _, _, _, hc⟩ := h
  obtain ⟨_, _, _, _, _, _, _, _, _, _, _, hJ⟩ := hc j hj
  refine ⟨hJ.below hb, fun a n' c' e h0 k => ?_⟩
  have h1 := hJ.lt a n' c' e (by
    obtain ⟨p0, c0, e0, _⟩ := hJ
    rw [e] at e0
    cases e0
    exact h0)
  have h2 := hX _ k
  omega
set_option maxHeartbeats 8000000 in
set_option maxRecDepth 100000 in
theorem loads_any (gens : List Int) (taken : List Bool) (m : Nat) (TT : Nat → Tk) (gv tv kv mv : Value) (mm : Nat) (O : Nat → Oz) (w : World) (hl : LaidAt w) (hg : Lst (fun _ => False) w gv (ints gens)) (ht : Lst (fun _ => False) w tv (bools taken)) (hk : Tasks w kv m TT) (hm80 : m * 80 ≤ 140737488355328)
    (hok : ∀ j, j < m → (TT j).k.c ≤ 9223372036854775807 ∧ (TT j).n * 32 ≤ 140737488355328) (hO : Opsz w mv mm O) :
    Calls Tryz.prog 4 #[.agg #[gv, tv, kv], mv] w fun e w' => e = .returned (.bool true) ∧ Below w.heap.size w w' := by
  have HOP := Lib.hid hO
  have HL := Lib.hid hl
  have HG := Lib.hid hg
  have HTN := Lib.hid ht
  have HK := Lib.hid hk
  have HOK := Lib.hid hok
  have HM := Lib.hid hm80
  have HSU := Lib.hid (fun W => sure_any W)
  obtain ⟨qg, cg, rfl, _, _⟩ := hg
  obtain ⟨qt, ct, rfl, _, _⟩ := ht
  obtain ⟨qk, ck, rfl, hm63, _⟩ := hk
  obtain ⟨qm, cm, rfl, hmm63, _⟩ := hO
  rw [ints_len] at HG ⊢
  rw [bools_len] at HTN ⊢
  obtain ⟨ng, hng⟩ : ∃ ng, ng = gens.length := ⟨_, rfl⟩
  obtain ⟨nt, hnt⟩ : ∃ nt, nt = taken.length := ⟨_, rfl⟩
  rw [← hng] at HG ⊢
  rw [← hnt] at HTN ⊢
  have HOW := Lib.hid (fun W (hb : Below w.heap.size w W) => own_tasks_any _ m TT W (HK.out.below hb) HM.out (fun j hj => (HOK.out j hj).2))
  have HLD := Lib.hid (fun W (hb : Below w.heap.size w W) sl y (hy : Tasks W y m (tm TT sl)) => ld_prog gens taken m TT sl _ _ y W (HG.out.below hb) (HTN.out.below hb) hy HOK.out)
  have hpos := hl.pos
  have HPO := Lib.hid hpos
  clear hl hng hnt hok hm80
  obtain ⟨WA, hWA⟩ : ∃ WA, WA = w.alloc (.cells #[.slice qg ng cg, .slice qt nt ct, .slice qk m ck] LaidT) := ⟨_, rfl⟩
  have HB := Lib.hid (show Below w.heap.size w WA from by rw [hWA]; exact (Below.refl _ _).alloc (Nat.le_refl _) _)
  have HX := Lib.hid (show Has3 WA w.heap.size (.slice qg ng cg) (.slice qt nt ct) (.slice qk m ck) from by rw [hWA]; exact has_new _ _ _ rfl)
  have HW := Lib.hid hWA
  clear hWA
  go_enter Tryz.func4, Tryz.ntmps4
  go_upto_region 1 with fail
  rw [← HW.out]
  obtain ⟨a0, a1, a2⟩ := HX.out.cells
  have HY := Lib.hid (fun W (hW : Below WA.heap.size WA W) => show W.cell? ⟨w.heap.size, 0, none⟩ = some (.slice qg ng cg) ∧ W.cell? ⟨w.heap.size, 1, none⟩ = some (.slice qt nt ct) ∧ W.cell? ⟨w.heap.size, 2, none⟩ = some (.slice qk m ck) ∧ Below w.heap.size w W ∧ Below WA.heap.size WA W from by
    obtain ⟨a0, a1, a2⟩ := (HX.out.below hW).cells
    exact ⟨a0, a1, a2, bnext HB.out hW, hW⟩)
  go_cut [5, 6] (fun pv ev wx => ∃ W0, Hid (Below w.heap.size w W0 ∧ Below W0.heap.size W0 wx ∧ Below WA.heap.size WA wx ∧ LdR W0 gens taken m TT pv ev wx))
  case first =>
    go_region_held3 (fun w' => w'.cell? ⟨w.heap.size, 0, none⟩ = some (.slice qg ng cg) ∧ w'.cell? ⟨w.heap.size, 1, none⟩ = some (.slice qt nt ct) ∧ w'.cell? ⟨w.heap.size, 2, none⟩ = some (.slice qk m ck) ∧ Below w.heap.size w w' ∧ Below WA.heap.size WA w')
      (first | exact HY.out _ (Below.refl _ _) | exact HY.out _ (below_drew (Below.refl _ _)) | (go_split_ands; exact HY.out _ (bnext (by assumption) hb)))
      (first
        | (go_at_call 11; refine (HOW.out _ ?_).mono ?_; (go_split_ands; assumption); rintro e wo ⟨yo, so, rfl, hto, hb⟩; have HBO := Lib.hid (bnext below_drewOne hb); have HTO := Lib.hid hto; obtain ⟨po, co, rfl, _⟩ := hto)
        | (go_at_call 10; refine (HLD.out _ ?_ so _ HTO.out).mono ?_; (go_split_ands; assumption); rintro e wl ⟨pv, ev, rfl, hr, hb⟩; have HR1 := Lib.hid hr; have HB1 := Lib.hid hb))
    have HBL := Lib.hid (show Below WA.heap.size WA wl from by go_split_ands; assumption)
    clear hr hb
    go_wp2_with fail
    go_meet
    exact ⟨wo, Lib.hid ⟨bnext HB.out HBO.out, HB1.out, HBL.out, HR1.out⟩⟩
  case rest =>
    clear a0 a1 a2 HOW HLD
    obtain ⟨W0, HC⟩ := hcut
    obtain ⟨hc0, hc1, hc2, hc3⟩ := HC.out
    have HB1 := Lib.hid (bnext hc0 hc1)
    have HBA := Lib.hid hc2
    have HWA := Lib.hid (show w.heap.size < WA.heap.size from has_lt HX.out)
    have HX1 := Lib.hid (HX.out.below hc2)
    have HRL := Lib.hid (fun (X : Nat → Prop) W (hb : Below w.heap.size w W) (hX : ∀ x, X x → w.heap.size ≤ x ∧ x < W.heap.size) => rload13 X gens taken m TT (by have := HM.out; omega) _ _ _ W (fun x hx => (hX x hx).2) (HG.out.below hb) (HTN.out.below hb) (HK.out.below hb) (fun j hj => tasks_jx HK.out (fun x hx => (hX x hx).1) hb hj))
    unfold LoadR13 at HRL
    obtain ⟨a0, a1, a2⟩ := HX1.out.cells
    rcases hc3 with ⟨hok1, rfl, S, bl, rfl, hLf⟩ | ⟨hno, rfl, rfl⟩
    · have HO1 := Lib.hid hok1
      have HLF := Lib.hid hLf
      have HW0 := Lib.hid (⟨hc0.size, hc1⟩ : _ ∧ _)
      clear hok1 hLf hc0 hc1 hc2
      have hS0 := (HLF.out (fun _ => False) (fun _ k => k.elim)).lt
      have HS0 := Lib.hid hS0
      have HR1 := Lib.hid (HRL.out S wc HB1.out (fun x hx => ⟨Nat.le_trans HW0.out.1 (HS0.out x hx).1, (HS0.out x hx).2⟩))
      clear hS0 HRL HC
      go_wp2_with fail
      refine HR1.out.mono ?_
      rintro e w2 (⟨_, gs, ts, ls, ks, rfl, hd2, hb2⟩ | ⟨hno, _⟩)
      rotate_left
      · exact absurd HO1.out hno
      obtain ⟨⟨p1, n1, c1, p2, n2, c2, p3, n3, c3, rfl, rfl, rfl⟩, pk, ck2, rfl⟩ := sl5 hd2
      have HPZ := Lib.hid (ld_a (ld_good HO1.out) ((HLF.out (fun _ => False) (fun _ k => k.elim)).mono (fun x _ q => .inr q)) hb2 hd2 (show 0 < W0.heap.size from Nat.lt_of_lt_of_le HPO.out HW0.out.1))
      have HB2 := Lib.hid (bnext HB1.out hb2)
      have HR0 := Lib.hid (show w.heap.size ≤ w2.heap.size ∧ wc.heap.size ≤ w2.heap.size from ⟨HB2.out.size, hb2.size⟩)
      clear hd2 hb2 a0 a1 a2 HR1 HLF
      obtain ⟨w3, hw3⟩ : ∃ w3, w3 = w2.alloc (.cells #[.int .i64 2, .slice p1 n1 c1, .slice p2 n2 c2, .slice p3 n3 c3, .slice pk 8 ck2] LT) := ⟨_, rfl⟩
      go_upto_region 3 with fail
      rw [← hw3] at HPZ ⊢
      have HB3 := Lib.hid (show Below w2.heap.size w2 w3 from by rw [hw3]; exact (Below.refl _ _).alloc (Nat.le_refl _) _)
      clear hw3
      have HCL := Lib.hid (lclone _ _ _ _ _ HPZ.out.good ld_zero w3 _ HPZ.out.lf)
      go_wp2_with fail
      refine HCL.out.mono ?_
      rintro e w4 ⟨S2, v2, rfl, hX2, hb4⟩
      obtain ⟨bl2, rfl⟩ : ∃ bl2, v2 = .pointer (some ⟨bl2, 0, none⟩) := by
        obtain ⟨_, bl, _, _, e, _⟩ := hX2 (fun _ => False) (fun _ k => k.elim)
        exact ⟨bl, e⟩
      have HX2 := Lib.hid hX2
      have HB4 := Lib.hid hb4
      clear hX2 hb4 HCL
      have hr4 := HPZ.out.hr.below HB4.out
      obtain ⟨a0, a1, a2, a3, a4⟩ := hr4.cells
      clear hr4
      go_upto_block 1 with fail
      obtain ⟨w5, hw5⟩ : ∃ w5, w5 = w4.alloc (.cells #[.int .i64 2, .slice p1 n1 c1, .slice p2 n2 c2, .slice p3 n3 c3, .slice pk 8 ck2] LT) := ⟨_, rfl⟩
      rw [← hw5]
      have HB5 := Lib.hid (show Below w4.heap.size w4 w5 ∧ w5.heap.size = w4.heap.size + 1 ∧ HasL w5 w4.heap.size 2 (.slice p1 n1 c1) (.slice p2 n2 c2) (.slice p3 n3 c3) (.slice pk 8 ck2) from by rw [hw5]; exact ⟨(Below.refl _ _).alloc (Nat.le_refl _) _, by simp, hasL_new _ _ _ _ _ _⟩)
      clear hw5 a0 a1 a2 a3 a4
      obtain ⟨Y, hY⟩ : ∃ Y : Nat → Prop, Y = fun x => (S x ∨ x = w2.heap.size) ∨ S2 x ∨ x = w4.heap.size := ⟨_, rfl⟩
      have HS2 := Lib.hid (HX2.out (fun _ => False) (fun _ k => k.elim)).lt
      have HZ1 := Lib.hid (show (∀ x, S x → W0.heap.size ≤ x ∧ x < w3.heap.size) ∧ w2.heap.size < w3.heap.size ∧ w3.heap.size ≤ w4.heap.size ∧ w.heap.size ≤ W0.heap.size ∧ w.heap.size ≤ w2.heap.size from
        ⟨fun x q => ⟨(HS0.out x q).1, HPZ.out.xw x (.inl q)⟩, HPZ.out.xw _ (.inr rfl), HB4.out.size, HW0.out.1, HR0.out.1⟩)
      have HAP := Lib.hid (show Apart w S S2 Y w2.heap.size w4.heap.size from by
        obtain ⟨z1, z2, z3, z4, z5⟩ := HZ1.out
        have y2 := HS2.out
        rw [hY]
        refine ⟨fun x q => .inl (.inl q), fun x q => .inr (.inl q), fun x q k => ?_, fun x q k => ?_, .inl (.inr rfl), .inr (.inr rfl), fun k => ?_, fun k => ?_, fun x q => ?_⟩
        · have := y2 x q
          rcases k with k | k
          · have := z1 x k; omega
          · omega
        · have := z1 x q
          rcases k with k | k
          · have := y2 x k; omega
          · omega
        · rcases k with k | k
          · have := z1 _ k; omega
          · omega
        · rcases k with k | k
          · have := y2 _ k; omega
          · omega
        · rcases q with (q | q) | q | q
          · have := z1 x q; omega
          · omega
          · have := y2 x q; omega
          · omega)
      have HTZ := Lib.hid (show TwoZ w S S2 Y W0.heap.size w3.heap.size w2.heap.size w4.heap.size (.pointer (some ⟨bl, 0, none⟩)) (.pointer (some ⟨bl2, 0, none⟩)) w5 from by
        obtain ⟨z1, z2, z3, z4, z5⟩ := HZ1.out
        have y2 := HS2.out
        obtain ⟨b5, s5, l5⟩ := HB5.out
        have hxw : ∀ x, Y x → x < w5.heap.size := fun x q => by
          rw [hY] at q
          rcases q with (q | q) | q | q
          · have := z1 x q; omega
          · omega
          · have := y2 x q; omega
          · omega
        have g1 : ∀ x, x < w3.heap.size → Y x → S x ∨ x = w2.heap.size := fun x hx q => by
          rw [hY] at q
          rcases q with q | q | q
          · exact q
          · have := y2 x q; omega
          · omega
        have hb45 := bnext HB4.out b5
        refine ⟨_, _, _, _, _, _, _, _, _, _, _, _, HPZ.out.grow hb45 g1 (fun x q => by rw [hY]; exact .inl q) hxw, ⟨HPZ.out.good, (Lf.mono (HX2.out (fun x => S x ∨ x = w2.heap.size) (fun x q => HPZ.out.xw x q)) (fun x hx q => ?_)).below b5, (HPZ.out.dl.mono g1).below hb45, l5, fun x q => by rw [hY]; exact .inr (.inl q), hxw, by rw [hY]; exact .inr (.inr rfl), fun q => by have := y2 _ q; omega, by omega⟩, bnext (bnext (bnext HB2.out HB3.out) HB4.out) b5⟩
        rw [hY] at q
        rcases q with q | q | q
        · exact .inl q
        · exact .inr q
        · omega)
      clear hY HB2 HB3 HB4 HB5 HPZ HZ1 HS2 HX2 HS0 HW0 HR0 HX1 HWA HBA HB1 HO1
      generalize w2.heap.size = R at *
      generalize w4.heap.size = R2 at *
      generalize w3.heap.size = B2 at *
      generalize W0.heap.size = B at *
      go_wp2_with fail
      go_loopw [11] (fun iv wr => ∃ k : Nat, iv = .int .i64 k ∧ k ≤ mm ∧ k ≤ 100 ∧ Hid (TwoZ w S S2 Y B B2 R R2 (.pointer (some ⟨bl, 0, none⟩)) (.pointer (some ⟨bl2, 0, none⟩)) wr)) (fun iv _ => 100 - (intOf iv).toNat)
      case atStart => exact ⟨0, rfl, Nat.zero_le _, by omega, HTZ⟩
      case round =>
        clear HTZ
        obtain ⟨k, rfl, hkm, hk100, HP⟩ := hrel
        have z0 : (0 : Int) ≤ (k : Int) := by omega
        by_cases hlt : k < mm ∧ k < 100
        · obtain ⟨A, T, gs, ts, ls, ks, A2, T2, gs2, ts2, ls2, ks2, hp, hp2, hbw⟩ := HP.out
          obtain ⟨⟨p1, n1, c1, p2, n2, c2, p3, n3, c3, rfl, rfl, rfl⟩, pk, ck, rfl⟩ := sl5 hp.dl
          have HPZ := Lib.hid hp
          have HP2 := Lib.hid hp2
          have HBW := Lib.hid hbw
          clear hp hp2 hbw HP
          obtain ⟨a0, a1, a2, a3, a4⟩ := HPZ.out.hr.cells
          obtain ⟨hlt1, hlt2⟩ := hlt
          have z1 : (k : Int) < (mm : Int) := by omega
          have z2 : (k : Int) < 100 := by omega
          obtain ⟨b, off, rfl, hbl, e0, e1, e2, e3, e4, e5, e6⟩ := HOP.out.at HBW.out hlt1
          obtain ⟨o, ho⟩ : ∃ o, o = O k := ⟨_, rfl⟩
          rw [← ho] at e0 e1 e2 e3 e4 e5 e6
          clear ho
          obtain ⟨ok, on, oh, ⟨ol, oc, oa, od⟩⟩ := o
          dsimp only at e0 e1 e2 e3 e4 e5 e6
          have HLW := Lib.hid (HL.out.below HBW.out)
          have HST1 := Lib.hid (step_any _ _ _ _ _ ok on oh ol oc oa od _ _ _ _ _ _ (HPZ.out.stepIn below_drewOne HLW.out))
          have HST2 := Lib.hid (step_any _ _ _ _ _ ok on oh ol oc oa od _ _ _ _ _ _ (HPZ.out.stepIn2 (W := (wr.alloc (.cells #[.int .i64 0, N0, N0, N0, N0] LT)).drew) ((Below.refl _ _).alloc (Nat.le_refl _) _).drew (by simp [World.drew]) HLW.out))
          unfold StepPost at HST1 HST2
          have hlb : b < wr.heap.size := Nat.lt_of_lt_of_le hbl HBW.out.size
          have hlr : R < wr.heap.size := has_lt HPZ.out.hr
          have HXZ := Lib.hid (show ∀ W, Keeps S (wr.alloc (.cells #[.int .i64 0, N0, N0, N0, N0] LT)).drew W → HasL W wr.heap.size 0 N0 N0 N0 N0 from fun W hk => has_keeps (has_drew (hasL_new wr 0 N0 N0 N0 N0)) hk (fun q => by have := HPZ.out.xw _ (HPZ.out.sx _ q); omega))
          go_upto_region 12 with fail
          go_cut [12, 13] (fun xv kv wx => ∃ A' T' gs' ts' ls' ks' bx, xv = .pointer (some ⟨bx, 0, none⟩) ∧ kv = .bool true ∧ Hid (CutZ S Y B R wr (.pointer (some ⟨bl, 0, none⟩)) A' T' gs' ts' ls' ks' bx wx))
          case first =>
            go_region_law (first
              | (go_simp; go_at_call 7; refine HST1.out.mono ?_; rintro e w4 ⟨A', T', gs', ts', ls', ks', rfl, hg4, hl4, hd4, hk4⟩; obtain ⟨⟨q1, m1, d1, q2, m2, d2, q3, m3, d3, rfl, rfl, rfl⟩, qk, dk, rfl⟩ := sl5 hd4; have HG4 := Lib.hid hg4; have HL4 := Lib.hid hl4; have HD4 := Lib.hid hd4; have HK4 := Lib.hid hk4; clear hg4 hl4 hd4 hk4)
              | (go_simp; go_at_call 7; refine HST2.out.mono ?_; rintro e w4 ⟨A', T', gs', ts', ls', ks', rfl, hg4, hl4, hd4, hk4⟩; obtain ⟨⟨q1, m1, d1, q2, m2, d2, q3, m3, d3, rfl, rfl, rfl⟩, qk, dk, rfl⟩ := sl5 hd4; have HG4 := Lib.hid hg4; have HL4 := Lib.hid hl4; have HD4 := Lib.hid hd4; have HK4 := Lib.hid hk4; have HX4 := Lib.hid (HXZ.out _ hk4); obtain ⟨x0, x1, x2, x3, x4⟩ := HX4.out.cells; have fx := fun j => has_free HX4.out j; clear hg4 hl4 hd4 hk4))
            all_goals
              go_wp2_with fail
              go_meet
              refine ⟨A', T', .slice q1 m1 d1, .slice q2 m2 d2, .slice q3 m3 d3, .slice qk 8 dk, _, rfl, rfl, Lib.hid ?_⟩
              first
                | (with_reducible exact HPZ.out.cutA below_drewOne HG4.out HL4.out HD4.out HK4.out)
                | (with_reducible exact HPZ.out.cutB HG4.out HL4.out HD4.out HK4.out)
          case rest =>
            obtain ⟨A', T', gs', ts', ls', ks', bx, rfl, rfl, HC⟩ := hcut
            obtain ⟨⟨q1, m1, d1, q2, m2, d2, q3, m3, d3, rfl, rfl, rfl⟩, qk, dk, rfl⟩ := sl5 HC.out.dl
            clear a0 a1 a2 a3 a4 e0 e1 e2 e3 e4 e5 e6 HST1 HST2 HXZ hlb hlr
            obtain ⟨x0, x1, x2, x3, x4⟩ := HC.out.hx.cells
            obtain ⟨_, _, _, _, hr⟩ := HC.out.hr
            obtain ⟨y0, y1, y2, y3, y4⟩ := hr.cells
            have fr := fun j => has_free hr j
            have hne : ¬ R = bx := by have := HC.out.ne; omega
            have hne2 : ¬ bx = R := by have := HC.out.ne; omega
            have HTN2 := Lib.hid (TwoZ.step HAP.out HPZ.out HP2.out HBW.out HC.out)
            clear hr
            go_wp2_with fail
            go_roundw
            case rel => exact ⟨k + 1, by go_num, by omega, by omega, Lib.hid HTN2.out⟩
            case measure => simp [intOf]; omega
        · obtain ⟨A, T, gs, ts, ls, ks, A2, T2, gs2, ts2, ls2, ks2, hp, hp2, hbw⟩ := HP.out
          obtain ⟨⟨p1, n1, c1, p2, n2, c2, p3, n3, c3, rfl, rfl, rfl⟩, pk, ck, rfl⟩ := sl5 hp.dl
          obtain ⟨⟨r1, i1, f1, r2, i2, f2, r3, i3, f3, rfl, rfl, rfl⟩, rk, fk, rfl⟩ := sl5 hp2.dl
          have HALK := Lib.hid (fun W (hb : Below wr.heap.size wr W) => alike_yes _ _ _ _ _ _ hp.good _ _ _ _ _ W (hp.lf.below hb) (hp.dl.below hb))
          have HALK2 := Lib.hid (fun W (hb : Below wr.heap.size wr W) => alike_yes _ _ _ _ _ _ hp2.good _ _ _ _ _ W (hp2.lf.below hb) (hp2.dl.below hb))
          have HBE := Lib.hid hbw
          have HHP := Lib.hid hp
          have HHP2 := Lib.hid hp2
          clear hp hp2 hbw HP
          have HCE := Lib.hid (fun W (hb : Below wr.heap.size wr W) => show _ ∧ _ from ⟨HasL.cells (HHP.out.hr.below hb), HasL.cells (HHP2.out.hr.below hb)⟩)
          obtain ⟨⟨a0, a1, a2, a3, a4⟩, ⟨b0, b1, b2, b3, b4⟩⟩ := HCE.out wr (Below.refl _ _)
          by_cases h4 : k < mm
          · have h5 : (100 : Int) ≤ (k : Int) := by omega
            clear hlt
            go_wp2_with fail
            refine (HALK2.out _ (Below.refl _ _)).mono ?_
            rintro e w6 ⟨rfl, hb6⟩
            have HZW := Lib.hid (TwoZ.below (show TwoZ w S S2 Y B B2 R R2 (.pointer (some ⟨bl, 0, none⟩)) (.pointer (some ⟨bl2, 0, none⟩)) wr from ⟨_, _, _, _, _, _, _, _, _, _, _, _, HHP.out, HHP2.out, HBE.out⟩) hb6)
            clear hb6 a0 a1 a2 a3 a4 b0 b1 b2 b3 b4 HALK HALK2 HCE HHP HHP2 HBE hkm hk100
            go_wp2_with fail
            go_loopw [14] (fun iv wr => ∃ k : Nat, iv = .int .i64 k ∧ k ≤ mm ∧ k ≤ 100 ∧ Hid (TwoZ w S S2 Y B B2 R R2 (.pointer (some ⟨bl, 0, none⟩)) (.pointer (some ⟨bl2, 0, none⟩)) wr)) (fun iv _ => 100 - (intOf iv).toNat)
            case atStart => exact ⟨0, rfl, Nat.zero_le _, by omega, HZW⟩
            case round =>
              clear HZW
              obtain ⟨k, rfl, hkm, hk100, HP⟩ := hrel
              have z0 : (0 : Int) ≤ (k : Int) := by omega
              by_cases hlt : k < mm ∧ k < 100
              · obtain ⟨A, T, gs, ts, ls, ks, A2, T2, gs2, ts2, ls2, ks2, hp, hp2, hbw⟩ := HP.out.swap
                obtain ⟨⟨p1, n1, c1, p2, n2, c2, p3, n3, c3, rfl, rfl, rfl⟩, pk, ck, rfl⟩ := sl5 hp.dl
                have HPZ := Lib.hid hp
                have HP2 := Lib.hid hp2
                have HBW := Lib.hid hbw
                clear hp hp2 hbw HP
                obtain ⟨a0, a1, a2, a3, a4⟩ := HPZ.out.hr.cells
                obtain ⟨hlt1, hlt2⟩ := hlt
                have z1 : (k : Int) < (mm : Int) := by omega
                have z2 : (k : Int) < 100 := by omega
                obtain ⟨b, off, rfl, hbl, e0, e1, e2, e3, e4, e5, e6⟩ := HOP.out.at HBW.out hlt1
                obtain ⟨o, ho⟩ : ∃ o, o = O k := ⟨_, rfl⟩
                rw [← ho] at e0 e1 e2 e3 e4 e5 e6
                clear ho
                obtain ⟨ok, on, oh, ⟨ol, oc, oa, od⟩⟩ := o
                dsimp only at e0 e1 e2 e3 e4 e5 e6
                have HLW := Lib.hid (HL.out.below HBW.out)
                have HST1 := Lib.hid (step_any _ _ _ _ _ ok on oh ol oc oa od _ _ _ _ _ _ (HPZ.out.stepIn below_drewOne HLW.out))
                have HST2 := Lib.hid (step_any _ _ _ _ _ ok on oh ol oc oa od _ _ _ _ _ _ (HPZ.out.stepIn2 (W := (wr.alloc (.cells #[.int .i64 0, N0, N0, N0, N0] LT)).drew) ((Below.refl _ _).alloc (Nat.le_refl _) _).drew (by simp [World.drew]) HLW.out))
                unfold StepPost at HST1 HST2
                have hlb : b < wr.heap.size := Nat.lt_of_lt_of_le hbl HBW.out.size
                have hlr : R2 < wr.heap.size := has_lt HPZ.out.hr
                have HXZ := Lib.hid (show ∀ W, Keeps S2 (wr.alloc (.cells #[.int .i64 0, N0, N0, N0, N0] LT)).drew W → HasL W wr.heap.size 0 N0 N0 N0 N0 from fun W hk => has_keeps (has_drew (hasL_new wr 0 N0 N0 N0 N0)) hk (fun q => by have := HPZ.out.xw _ (HPZ.out.sx _ q); omega))
                go_upto_region 21 with fail
                go_cut [15, 16] (fun xv kv wx => ∃ A' T' gs' ts' ls' ks' bx, xv = .pointer (some ⟨bx, 0, none⟩) ∧ kv = .bool true ∧ Hid (CutZ S2 Y B2 R2 wr (.pointer (some ⟨bl2, 0, none⟩)) A' T' gs' ts' ls' ks' bx wx))
                case first =>
                  go_region_law (first
                    | (go_simp; go_at_call 7; refine HST1.out.mono ?_; rintro e w4 ⟨A', T', gs', ts', ls', ks', rfl, hg4, hl4, hd4, hk4⟩; obtain ⟨⟨q1, m1, d1, q2, m2, d2, q3, m3, d3, rfl, rfl, rfl⟩, qk, dk, rfl⟩ := sl5 hd4; have HG4 := Lib.hid hg4; have HL4 := Lib.hid hl4; have HD4 := Lib.hid hd4; have HK4 := Lib.hid hk4; clear hg4 hl4 hd4 hk4)
                    | (go_simp; go_at_call 7; refine HST2.out.mono ?_; rintro e w4 ⟨A', T', gs', ts', ls', ks', rfl, hg4, hl4, hd4, hk4⟩; obtain ⟨⟨q1, m1, d1, q2, m2, d2, q3, m3, d3, rfl, rfl, rfl⟩, qk, dk, rfl⟩ := sl5 hd4; have HG4 := Lib.hid hg4; have HL4 := Lib.hid hl4; have HD4 := Lib.hid hd4; have HK4 := Lib.hid hk4; have HX4 := Lib.hid (HXZ.out _ hk4); obtain ⟨x0, x1, x2, x3, x4⟩ := HX4.out.cells; have fx := fun j => has_free HX4.out j; clear hg4 hl4 hd4 hk4))
                  all_goals
                    go_wp2_with fail
                    go_meet
                    refine ⟨A', T', .slice q1 m1 d1, .slice q2 m2 d2, .slice q3 m3 d3, .slice qk 8 dk, _, rfl, rfl, Lib.hid ?_⟩
                    first
                      | (with_reducible exact HPZ.out.cutA below_drewOne HG4.out HL4.out HD4.out HK4.out)
                      | (with_reducible exact HPZ.out.cutB HG4.out HL4.out HD4.out HK4.out)
                case rest =>
                  obtain ⟨A', T', gs', ts', ls', ks', bx, rfl, rfl, HC⟩ := hcut
                  obtain ⟨⟨q1, m1, d1, q2, m2, d2, q3, m3, d3, rfl, rfl, rfl⟩, qk, dk, rfl⟩ := sl5 HC.out.dl
                  clear a0 a1 a2 a3 a4 e0 e1 e2 e3 e4 e5 e6 HST1 HST2 HXZ hlb hlr
                  obtain ⟨x0, x1, x2, x3, x4⟩ := HC.out.hx.cells
                  obtain ⟨_, _, _, _, hr⟩ := HC.out.hr
                  obtain ⟨y0, y1, y2, y3, y4⟩ := hr.cells
                  have fr := fun j => has_free hr j
                  have hne : ¬ R2 = bx := by have := HC.out.ne; omega
                  have hne2 : ¬ bx = R2 := by have := HC.out.ne; omega
                  have HTN2 := Lib.hid (TwoZ.step HAP.out.swap HPZ.out HP2.out HBW.out HC.out)
                  clear hr
                  go_wp2_with fail
                  go_roundw
                  case rel => exact ⟨k + 1, by go_num, by omega, by omega, Lib.hid HTN2.out.swap⟩
                  case measure => simp [intOf]; omega
              · obtain ⟨A, T, gs, ts, ls, ks, A2, T2, gs2, ts2, ls2, ks2, hp, hp2, hbw⟩ := HP.out
                obtain ⟨⟨p1, n1, c1, p2, n2, c2, p3, n3, c3, rfl, rfl, rfl⟩, pk, ck, rfl⟩ := sl5 hp.dl
                obtain ⟨⟨r1, i1, f1, r2, i2, f2, r3, i3, f3, rfl, rfl, rfl⟩, rk, fk, rfl⟩ := sl5 hp2.dl
                have HALK := Lib.hid (fun W (hb : Below wr.heap.size wr W) => alike_yes _ _ _ _ _ _ hp.good _ _ _ _ _ W (hp.lf.below hb) (hp.dl.below hb))
                have HALK2 := Lib.hid (fun W (hb : Below wr.heap.size wr W) => alike_yes _ _ _ _ _ _ hp2.good _ _ _ _ _ W (hp2.lf.below hb) (hp2.dl.below hb))
                have HBE := Lib.hid hbw
                have HHP := Lib.hid hp
                have HHP2 := Lib.hid hp2
                clear hp hp2 hbw HP
                have HCE := Lib.hid (fun W (hb : Below wr.heap.size wr W) => show _ ∧ _ from ⟨HasL.cells (HHP.out.hr.below hb), HasL.cells (HHP2.out.hr.below hb)⟩)
                obtain ⟨⟨a0, a1, a2, a3, a4⟩, ⟨b0, b1, b2, b3, b4⟩⟩ := HCE.out wr (Below.refl _ _)
                by_cases h4 : k < mm
                · have h5 : (100 : Int) ≤ (k : Int) := by omega
                  clear hlt
                  go_wp2_with fail
                  refine (HALK.out _ (Below.refl _ _)).mono ?_
                  rintro e w6 ⟨rfl, hb6⟩
                  have HB6 := Lib.hid hb6
                  clear hb6 a0 a1 a2 a3 a4 b0 b1 b2 b3 b4
                  obtain ⟨⟨a0, a1, a2, a3, a4⟩, ⟨b0, b1, b2, b3, b4⟩⟩ := HCE.out _ HB6.out
                  go_wp2_with fail
                  refine (HALK2.out _ HB6.out).mono ?_
                  rintro e w7 ⟨rfl, hb7⟩
                  have HB7 := Lib.hid (bnext HB6.out hb7)
                  clear hb7
                  go_wp2_with fail
                  refine (HSU.out _).mono ?_
                  rintro e w8 ⟨rfl, hb8⟩
                  go_wp2_with fail
                  go_ret
                  exact ⟨rfl, bnext (bnext HBE.out HB7.out) hb8⟩
                · clear hlt
                  go_wp2_with fail
                  refine (HALK.out _ (Below.refl _ _)).mono ?_
                  rintro e w6 ⟨rfl, hb6⟩
                  have HB6 := Lib.hid hb6
                  clear hb6 a0 a1 a2 a3 a4 b0 b1 b2 b3 b4
                  obtain ⟨⟨a0, a1, a2, a3, a4⟩, ⟨b0, b1, b2, b3, b4⟩⟩ := HCE.out _ HB6.out
                  go_wp2_with fail
                  refine (HALK2.out _ HB6.out).mono ?_
                  rintro e w7 ⟨rfl, hb7⟩
                  have HB7 := Lib.hid (bnext HB6.out hb7)
                  clear hb7
                  go_wp2_with fail
                  refine (HSU.out _).mono ?_
                  rintro e w8 ⟨rfl, hb8⟩
                  go_wp2_with fail
                  go_ret
                  exact ⟨rfl, bnext (bnext HBE.out HB7.out) hb8⟩
          · clear hlt
            go_wp2_with fail
            refine (HALK2.out _ (Below.refl _ _)).mono ?_
            rintro e w6 ⟨rfl, hb6⟩
            have HZW := Lib.hid (TwoZ.below (show TwoZ w S S2 Y B B2 R R2 (.pointer (some ⟨bl, 0, none⟩)) (.pointer (some ⟨bl2, 0, none⟩)) wr from ⟨_, _, _, _, _, _, _, _, _, _, _, _, HHP.out, HHP2.out, HBE.out⟩) hb6)
            clear hb6 a0 a1 a2 a3 a4 b0 b1 b2 b3 b4 HALK HALK2 HCE HHP HHP2 HBE hkm hk100
            go_wp2_with fail
            go_loopw [14] (fun iv wr => ∃ k : Nat, iv = .int .i64 k ∧ k ≤ mm ∧ k ≤ 100 ∧ Hid (TwoZ w S S2 Y B B2 R R2 (.pointer (some ⟨bl, 0, none⟩)) (.pointer (some ⟨bl2, 0, none⟩)) wr)) (fun iv _ => 100 - (intOf iv).toNat)
            case atStart => exact ⟨0, rfl, Nat.zero_le _, by omega, HZW⟩
            case round =>
              clear HZW
              obtain ⟨k, rfl, hkm, hk100, HP⟩ := hrel
              have z0 : (0 : Int) ≤ (k : Int) := by omega
              by_cases hlt : k < mm ∧ k < 100
              · obtain ⟨A, T, gs, ts, ls, ks, A2, T2, gs2, ts2, ls2, ks2, hp, hp2, hbw⟩ := HP.out.swap
                obtain ⟨⟨p1, n1, c1, p2, n2, c2, p3, n3, c3, rfl, rfl, rfl⟩, pk, ck, rfl⟩ := sl5 hp.dl
                have HPZ := Lib.hid hp
                have HP2 := Lib.hid hp2
                have HBW := Lib.hid hbw
                clear hp hp2 hbw HP
                obtain ⟨a0, a1, a2, a3, a4⟩ := HPZ.out.hr.cells
                obtain ⟨hlt1, hlt2⟩ := hlt
                have z1 : (k : Int) < (mm : Int) := by omega
                have z2 : (k : Int) < 100 := by omega
                obtain ⟨b, off, rfl, hbl, e0, e1, e2, e3, e4, e5, e6⟩ := HOP.out.at HBW.out hlt1
                obtain ⟨o, ho⟩ : ∃ o, o = O k := ⟨_, rfl⟩
                rw [← ho] at e0 e1 e2 e3 e4 e5 e6
                clear ho
                obtain ⟨ok, on, oh, ⟨ol, oc, oa, od⟩⟩ := o
                dsimp only at e0 e1 e2 e3 e4 e5 e6
                have HLW := Lib.hid (HL.out.below HBW.out)
                have HST1 := Lib.hid (step_any _ _ _ _ _ ok on oh ol oc oa od _ _ _ _ _ _ (HPZ.out.stepIn below_drewOne HLW.out))
                have HST2 := Lib.hid (step_any _ _ _ _ _ ok on oh ol oc oa od _ _ _ _ _ _ (HPZ.out.stepIn2 (W := (wr.alloc (.cells #[.int .i64 0, N0, N0, N0, N0] LT)).drew) ((Below.refl _ _).alloc (Nat.le_refl _) _).drew (by simp [World.drew]) HLW.out))
                unfold StepPost at HST1 HST2
                have hlb : b < wr.heap.size := Nat.lt_of_lt_of_le hbl HBW.out.size
                have hlr : R2 < wr.heap.size := has_lt HPZ.out.hr
                have HXZ := Lib.hid (show ∀ W, Keeps S2 (wr.alloc (.cells #[.int .i64 0, N0, N0, N0, N0] LT)).drew W → HasL W wr.heap.size 0 N0 N0 N0 N0 from fun W hk => has_keeps (has_drew (hasL_new wr 0 N0 N0 N0 N0)) hk (fun q => by have := HPZ.out.xw _ (HPZ.out.sx _ q); omega))
                go_upto_region 21 with fail
                go_cut [15, 16] (fun xv kv wx => ∃ A' T' gs' ts' ls' ks' bx, xv = .pointer (some ⟨bx, 0, none⟩) ∧ kv = .bool true ∧ Hid (CutZ S2 Y B2 R2 wr (.pointer (some ⟨bl2, 0, none⟩)) A' T' gs' ts' ls' ks' bx wx))
                case first =>
                  go_region_law (first
                    | (go_simp; go_at_call 7; refine HST1.out.mono ?_; rintro e w4 ⟨A', T', gs', ts', ls', ks', rfl, hg4, hl4, hd4, hk4⟩; obtain ⟨⟨q1, m1, d1, q2, m2, d2, q3, m3, d3, rfl, rfl, rfl⟩, qk, dk, rfl⟩ := sl5 hd4; have HG4 := Lib.hid hg4; have HL4 := Lib.hid hl4; have HD4 := Lib.hid hd4; have HK4 := Lib.hid hk4; clear hg4 hl4 hd4 hk4)
                    | (go_simp; go_at_call 7; refine HST2.out.mono ?_; rintro e w4 ⟨A', T', gs', ts', ls', ks', rfl, hg4, hl4, hd4, hk4⟩; obtain ⟨⟨q1, m1, d1, q2, m2, d2, q3, m3, d3, rfl, rfl, rfl⟩, qk, dk, rfl⟩ := sl5 hd4; have HG4 := Lib.hid hg4; have HL4 := Lib.hid hl4; have HD4 := Lib.hid hd4; have HK4 := Lib.hid hk4; have HX4 := Lib.hid (HXZ.out _ hk4); obtain ⟨x0, x1, x2, x3, x4⟩ := HX4.out.cells; have fx := fun j => has_free HX4.out j; clear hg4 hl4 hd4 hk4))
                  all_goals
                    go_wp2_with fail
                    go_meet
                    refine ⟨A', T', .slice q1 m1 d1, .slice q2 m2 d2, .slice q3 m3 d3, .slice qk 8 dk, _, rfl, rfl, Lib.hid ?_⟩
                    first
                      | (with_reducible exact HPZ.out.cutA below_drewOne HG4.out HL4.out HD4.out HK4.out)
                      | (with_reducible exact HPZ.out.cutB HG4.out HL4.out HD4.out HK4.out)
                case rest =>
                  obtain ⟨A', T', gs', ts', ls', ks', bx, rfl, rfl, HC⟩ := hcut
                  obtain ⟨⟨q1, m1, d1, q2, m2, d2, q3, m3, d3, rfl, rfl, rfl⟩, qk, dk, rfl⟩ := sl5 HC.out.dl
                  clear a0 a1 a2 a3 a4 e0 e1 e2 e3 e4 e5 e6 HST1 HST2 HXZ hlb hlr
                  obtain ⟨x0, x1, x2, x3, x4⟩ := HC.out.hx.cells
                  obtain ⟨_, _, _, _, hr⟩ := HC.out.hr
                  obtain ⟨y0, y1, y2, y3, y4⟩ := hr.cells
                  have fr := fun j => has_free hr j
                  have hne : ¬ R2 = bx := by have := HC.out.ne; omega
                  have hne2 : ¬ bx = R2 := by have := HC.out.ne; omega
                  have HTN2 := Lib.hid (TwoZ.step HAP.out.swap HPZ.out HP2.out HBW.out HC.out)
                  clear hr
                  go_wp2_with fail
                  go_roundw
                  case rel => exact ⟨k + 1, by go_num, by omega, by omega, Lib.hid HTN2.out.swap⟩
                  case measure => simp [intOf]; omega
              · obtain ⟨A, T, gs, ts, ls, ks, A2, T2, gs2, ts2, ls2, ks2, hp, hp2, hbw⟩ := HP.out
                obtain ⟨⟨p1, n1, c1, p2, n2, c2, p3, n3, c3, rfl, rfl, rfl⟩, pk, ck, rfl⟩ := sl5 hp.dl
                obtain ⟨⟨r1, i1, f1, r2, i2, f2, r3, i3, f3, rfl, rfl, rfl⟩, rk, fk, rfl⟩ := sl5 hp2.dl
                have HALK := Lib.hid (fun W (hb : Below wr.heap.size wr W) => alike_yes _ _ _ _ _ _ hp.good _ _ _ _ _ W (hp.lf.below hb) (hp.dl.below hb))
                have HALK2 := Lib.hid (fun W (hb : Below wr.heap.size wr W) => alike_yes _ _ _ _ _ _ hp2.good _ _ _ _ _ W (hp2.lf.below hb) (hp2.dl.below hb))
                have HBE := Lib.hid hbw
                have HHP := Lib.hid hp
                have HHP2 := Lib.hid hp2
                clear hp hp2 hbw HP
                have HCE := Lib.hid (fun W (hb : Below wr.heap.size wr W) => show _ ∧ _ from ⟨HasL.cells (HHP.out.hr.below hb), HasL.cells (HHP2.out.hr.below hb)⟩)
                obtain ⟨⟨a0, a1, a2, a3, a4⟩, ⟨b0, b1, b2, b3, b4⟩⟩ := HCE.out wr (Below.refl _ _)
                by_cases h4 : k < mm
                · have h5 : (100 : Int) ≤ (k : Int) := by omega
                  clear hlt
                  go_wp2_with fail
                  refine (HALK.out _ (Below.refl _ _)).mono ?_
                  rintro e w6 ⟨rfl, hb6⟩
                  have HB6 := Lib.hid hb6
                  clear hb6 a0 a1 a2 a3 a4 b0 b1 b2 b3 b4
                  obtain ⟨⟨a0, a1, a2, a3, a4⟩, ⟨b0, b1, b2, b3, b4⟩⟩ := HCE.out _ HB6.out
                  go_wp2_with fail
                  refine (HALK2.out _ HB6.out).mono ?_
                  rintro e w7 ⟨rfl, hb7⟩
                  have HB7 := Lib.hid (bnext HB6.out hb7)
                  clear hb7
                  go_wp2_with fail
                  refine (HSU.out _).mono ?_
                  rintro e w8 ⟨rfl, hb8⟩
                  go_wp2_with fail
                  go_ret
                  exact ⟨rfl, bnext (bnext HBE.out HB7.out) hb8⟩
                · clear hlt
                  go_wp2_with fail
                  refine (HALK.out _ (Below.refl _ _)).mono ?_
                  rintro e w6 ⟨rfl, hb6⟩
                  have HB6 := Lib.hid hb6
                  clear hb6 a0 a1 a2 a3 a4 b0 b1 b2 b3 b4
                  obtain ⟨⟨a0, a1, a2, a3, a4⟩, ⟨b0, b1, b2, b3, b4⟩⟩ := HCE.out _ HB6.out
                  go_wp2_with fail
                  refine (HALK2.out _ HB6.out).mono ?_
                  rintro e w7 ⟨rfl, hb7⟩
                  have HB7 := Lib.hid (bnext HB6.out hb7)
                  clear hb7
                  go_wp2_with fail
                  refine (HSU.out _).mono ?_
                  rintro e w8 ⟨rfl, hb8⟩
                  go_wp2_with fail
                  go_ret
                  exact ⟨rfl, bnext (bnext HBE.out HB7.out) hb8⟩
    · have HNO := Lib.hid hno
      clear hc0 hc1 hc2 hno HC
      have HR1 := Lib.hid (HRL.out (fun _ => False) wc HB1.out (fun _ k => k.elim))
      go_wp2_with fail
      refine HR1.out.mono ?_
      rintro e w2 (⟨hok1, _⟩ | ⟨_, rfl, hb2⟩)
      · exact absurd hok1 HNO.out
      have HB2 := Lib.hid ((bnext HB1.out hb2).alloc (bnext HB1.out hb2).size (.cells #[.int .i64 0, N0, N0, N0, N0] LT))
      have HLW := Lib.hid (HL.out.below HB2.out)
      clear hb2
      go_wp2_with fail
      refine (num_any 270 _ HLW.out).mono ?_
      rintro e w3 ⟨rfl, hb3⟩
      have HB3 := Lib.hid (bnext HB2.out hb3)
      clear hb3
      go_wp2_with fail
      refine (HSU.out _).mono ?_
      rintro e w4 ⟨rfl, hb4⟩
      go_wp2_with fail
      go_ret
      exact ⟨rfl, bnext HB3.out hb4⟩
end Go.Proofs.YthbkinopgialmaaGreatDoor
/- What comes in opened to cells: a task (a struct of a number, a slice of jobs, an account), a job; no condition but those that each row names. -/
namespace Go.Proofs.YthbkinopgialmaaGreatDoor
open Go.ChangeShapes Go.WideShapes Go.RowKit Go.ChangeMaps Go.Deep Tsk

theorem laidOut : laidOutB Tryz.prog = true := by kernel_rfl
theorem cellsInt : Tryz.prog.cellsOf 3 = 1 := by kernel_rfl
theorem cellsJob : Tryz.prog.cellsOf 37 = 4 := by kernel_rfl
theorem cellsJobs : Tryz.prog.cellsOf 57 = 1 := by kernel_rfl
theorem cellsAcc : Tryz.prog.cellsOf 59 = 6 := by kernel_rfl
theorem cellsTask : Tryz.prog.cellsOf 61 = 8 := by kernel_rfl
theorem plain_addr {w : World} {a : Addr} {v : Value} (h : w.cell? a = some v) : ∃ b off, a = ⟨b, off, none⟩ := by
  obtain ⟨b, off, spot⟩ := a
  have hs : spot = none := World.cell?_spot h
  subst hs
  exact ⟨b, off, rfl⟩

section
variable {H : Type} {enc : TypeId × Value → H} {w : World} {spare : Nat → Bool} {held : Bool}
set_option maxRecDepth 100000 in
/-- A slice of jobs. -/
theorem open_jobs {fuel : Nat} {v : Value} {x : DataW H × List MemPlace} (h : DataW.trod enc Tryz.prog w 0 spare held fuel 57 [v] = some x) : ∃ n f, Jobs w v n f := by
  rcases open_slice Tryz.underlying57 h with ⟨hc, _⟩ | ⟨a, len, cap, m, n, D, Pl, hcs, _, hl, hm, hmm, _, hi⟩
  · simp at hc
    subst hc
    exact ⟨0, fun _ => ⟨0, 0, 0, 0⟩, none, 0, rfl, by omega, fun j hj => by omega⟩
  · simp at hcs
    subst hcs
    have hlm : len ≤ m := by rw [hmm]; split <;> omega
    have hpl : 0 < len → ∃ b off, a = ⟨b, off, none⟩ := fun h0 => by
      obtain ⟨cs', hc, _⟩ := hi 0 (by omega)
      rw [cellsJob] at hc
      obtain ⟨_, hcl, hat⟩ := World.cells?_some hc
      match cs', hcl with
      | [u0, u1, u2, u3], _ =>
        have h0 := hat 0 (by simp)
        simp only [List.getElem?_cons_zero] at h0
        exact plain_addr (by simpa [Addr.add] using h0)
    have hel : ∀ i, i < len → ∃ q : Jb, ∃ b off, a = ⟨b, off, none⟩ ∧ w.cell? ⟨b, off + i * 4, none⟩ = some (.int .i64 q.l) ∧ w.cell? ⟨b, off + i * 4 + 1, none⟩ = some (.int .i64 q.c) ∧ w.cell? ⟨b, off + i * 4 + 2, none⟩ = some (.int .i64 q.a) ∧ w.cell? ⟨b, off + i * 4 + 3, none⟩ = some (.int .i64 q.d) := fun i hil => by
      obtain ⟨cs', hc, ht⟩ := hi i (by omega)
      rw [cellsJob] at hc
      obtain ⟨_, hcl, hat⟩ := World.cells?_some hc
      obtain ⟨xs, n', _, _, _, hxl, hf⟩ := DataW.trod_struct Tryz.underlying37 ht
      match cs', hcl with
      | [u0, u1, u2, u3], _ =>
        have g0 := hf 0 _ rfl
        have g1 := hf 1 _ rfl
        have g2 := hf 2 _ rfl
        have g3 := hf 3 _ rfl
        simp [cellsInt] at g0 g1 g2 g3
        match xs, hxl with
        | [y0, y1, y2, y3], _ =>
          obtain ⟨z0, e0, _, _⟩ := DataW.trod_int Tryz.underlying3 g0
          obtain ⟨z1, e1, _, _⟩ := DataW.trod_int Tryz.underlying3 g1
          obtain ⟨z2, e2, _, _⟩ := DataW.trod_int Tryz.underlying3 g2
          obtain ⟨z3, e3, _, _⟩ := DataW.trod_int Tryz.underlying3 g3
          simp at e0 e1 e2 e3
          subst e0 e1 e2 e3
          have h0 := hat 0 (by simp)
          have h1 := hat 1 (by simp)
          have h2 := hat 2 (by simp)
          have h3 := hat 3 (by simp)
          simp only [add_add, List.getElem?_cons_zero, List.getElem?_cons_succ] at h0 h1 h2 h3
          obtain ⟨b, off, rfl⟩ := hpl (by omega)
          rw [addr_plus] at h0 h1 h2 h3
          exact ⟨⟨z0, z1, z2, z3⟩, b, off, rfl, by simpa using h0, by rw [Nat.add_assoc]; exact h1, by rw [Nat.add_assoc]; exact h2, by rw [Nat.add_assoc]; exact h3⟩
    refine ⟨len, fun i => if hil : i < len then Classical.choose (hel i hil) else ⟨0, 0, 0, 0⟩, some a, cap, rfl, by unfold maxLen at hm; omega, fun j hj => ?_⟩
    obtain ⟨b, off, ha, c⟩ := Classical.choose_spec (hel j hj)
    refine ⟨b, off, by rw [ha], ?_⟩
    simp only [dif_pos hj]
    exact c
set_option maxRecDepth 100000 in
/-- An account. -/
theorem open_acc {fuel : Nat} {c0 c1 c2 c3 c4 c5 : Value} {x : DataW H × List MemPlace} (h : DataW.trod enc Tryz.prog w 0 spare held fuel 59 [c0, c1, c2, c3, c4, c5] = some x) :
    ∃ a0 a1 a2 a3 a4 a5 : Int, c0 = .int .i64 a0 ∧ c1 = .int .i64 a1 ∧ c2 = .int .i64 a2 ∧ c3 = .int .i64 a3 ∧ c4 = .int .i64 a4 ∧ c5 = .int .i64 a5 ∧ a4 ≤ 9223372036854775807 := by
  obtain ⟨xs, n, _, _, _, hlen, hg⟩ := DataW.trod_struct Tryz.underlying59 h
  match xs, hlen with
  | [y0, y1, y2, y3, y4, y5], _ =>
    have h0 := hg 0 _ rfl
    have h1 := hg 1 _ rfl
    have h2 := hg 2 _ rfl
    have h3 := hg 3 _ rfl
    have h4 := hg 4 _ rfl
    have h5 := hg 5 _ rfl
    simp [cellsInt] at h0 h1 h2 h3 h4 h5
    obtain ⟨a0, u0, _, _⟩ := DataW.trod_int Tryz.underlying3 h0
    obtain ⟨a1, u1, _, _⟩ := DataW.trod_int Tryz.underlying3 h1
    obtain ⟨a2, u2, _, _⟩ := DataW.trod_int Tryz.underlying3 h2
    obtain ⟨a3, u3, _, _⟩ := DataW.trod_int Tryz.underlying3 h3
    obtain ⟨a4, u4, _, w4⟩ := DataW.trod_int Tryz.underlying3 h4
    obtain ⟨a5, u5, _, _⟩ := DataW.trod_int Tryz.underlying3 h5
    simp at u0 u1 u2 u3 u4 u5
    exact ⟨a0, a1, a2, a3, a4, a5, u0, u1, u2, u3, u4, u5, (bounds_i64 w4).2⟩
set_option maxRecDepth 100000 in
/-- A task: its cells, its jobs, the datum of its jobs. -/
theorem open_task_cells {fuel : Nat} {cs : List Value} {x : DataW H × List MemPlace} (hcs : cs.length = 8) (h : DataW.trod enc Tryz.prog w 0 spare held fuel 61 cs = some x) :
    ∃ (p0 : Int) (sv : Value) (k : Ac) (n : Nat) (f : Nat → Jb) (d0 dJ dA : DataW H) (PJ : List MemPlace) (fj : Nat), cs = [.int .i64 p0, sv, .int .i64 k.g, .int .i64 k.o, .int .i64 k.n, .int .i64 k.d, .int .i64 k.c, .int .i64 k.t] ∧ Jobs w sv n f ∧ k.c ≤ 9223372036854775807 ∧ x.1 = .agg [d0, dJ, dA] ∧ DataW.trod enc Tryz.prog w 0 spare held fj 57 [sv] = some (dJ, PJ) := by
  obtain ⟨xs, fj, _, hx, _, hlen, hg⟩ := DataW.trod_struct Tryz.underlying61 h
  match cs, hcs with
  | [c0, c1, c2, c3, c4, c5, c6, c7], _ =>
    match xs, hlen with
    | [y0, y1, y2], _ =>
      have h0 := hg 0 _ rfl
      have h1 := hg 1 _ rfl
      have h2 := hg 2 _ rfl
      simp [cellsInt, cellsJobs, cellsAcc] at h0 h1 h2
      obtain ⟨p0, u0, _, _⟩ := DataW.trod_int Tryz.underlying3 h0
      simp at u0
      obtain ⟨n, f, hj⟩ := open_jobs h1
      obtain ⟨a0, a1, a2, a3, a4, a5, rfl, rfl, rfl, rfl, rfl, rfl, hc4⟩ := open_acc h2
      subst u0
      refine ⟨p0, c1, ⟨a0, a1, a2, a3, a4, a5⟩, n, f, y0.1, y1.1, y2.1, y1.2, _, rfl, hj, hc4, ?_, h1⟩
      rw [hx]
      rfl
set_option maxRecDepth 100000 in
theorem open_task {r : Reach} {b0 : Nat} {v : Value} {d : DataW H} {P : List MemPlace} (hv : Value.okWide Tryz.prog w r b0 61 v) (h : DataW.Trod enc Tryz.prog w 0 spare held 61 v d P) :
    ∃ (p0 : Int) (sv : Value) (k : Ac) (n : Nat) (f : Nat → Jb) (d0 dJ dA : DataW H) (PJ : List MemPlace) (fj : Nat), v = tV p0 sv k ∧ Jobs w sv n f ∧ k.c ≤ 9223372036854775807 ∧ d = .agg [d0, dJ, dA] ∧ DataW.trod enc Tryz.prog w 0 spare held fj 57 [sv] = some (dJ, PJ) := by
  obtain ⟨cs, rfl, hsz⟩ := okWide_struct Tryz.underlying61 hv
  obtain ⟨l⟩ := cs
  obtain ⟨fuel, hf⟩ := h
  obtain ⟨p0, sv, k, n, f, d0, dJ, dA, PJ, fj, e, hj, hc4, hd, hs⟩ := open_task_cells (cs := l) (hsz.trans cellsTask) hf
  subst e
  exact ⟨p0, sv, k, n, f, d0, dJ, dA, PJ, fj, rfl, hj, hc4, hd, hs⟩
set_option maxRecDepth 100000 in
/-- A job that comes in. -/
theorem open_job {r : Reach} {b0 : Nat} {v : Value} {d : DataW H} {P : List MemPlace} (hv : Value.okWide Tryz.prog w r b0 37 v) (h : DataW.Trod enc Tryz.prog w 0 spare held 37 v d P) : ∃ j : Jb, v = jV j := by
  obtain ⟨cs, rfl, hsz⟩ := okWide_struct Tryz.underlying37 hv
  obtain ⟨l⟩ := cs
  match l, hsz.trans cellsJob with
  | [c0, c1, c2, c3], _ =>
    obtain ⟨fuel, hf⟩ := h
    obtain ⟨xs, n', _, _, _, hxl, hg⟩ := DataW.trod_struct Tryz.underlying37 hf
    match xs, hxl with
    | [y0, y1, y2, y3], _ =>
      have g0 := hg 0 _ rfl
      have g1 := hg 1 _ rfl
      have g2 := hg 2 _ rfl
      have g3 := hg 3 _ rfl
      simp [cellsInt, Value.cells] at g0 g1 g2 g3
      obtain ⟨z0, e0, _, _⟩ := DataW.trod_int Tryz.underlying3 g0
      obtain ⟨z1, e1, _, _⟩ := DataW.trod_int Tryz.underlying3 g1
      obtain ⟨z2, e2, _, _⟩ := DataW.trod_int Tryz.underlying3 g2
      obtain ⟨z3, e3, _, _⟩ := DataW.trod_int Tryz.underlying3 g3
      simp at e0 e1 e2 e3
      subst e0 e1 e2 e3
      exact ⟨⟨z0, z1, z2, z3⟩, rfl⟩
set_option maxRecDepth 100000 in
theorem jobs_bound {fj : Nat} {sv : Value} {dJ : DataW H} {PJ : List MemPlace} (hs : DataW.trod enc Tryz.prog w 0 spare held fj 57 [sv] = some (dJ, PJ)) (hw : ∀ m ∈ dJ.weights Tryz.prog 57, m ≤ reachBytes) : ∀ p n c, sv = .slice p n c → n * 32 ≤ 140737488355328 := by
  intro p n c e
  subst e
  rcases open_slice Tryz.underlying57 hs with ⟨hc, _⟩ | ⟨a, len, cap, m, n', D, Pl, hcs, _, hl, hm, hmm, hx, _⟩
  · simp at hc; omega
  · simp at hcs
    obtain ⟨_, rfl, _⟩ := hcs
    have hd : dJ = .slice ((List.range n).map D) ((List.range (m - n)).map fun j => D (n + j)) := congrArg Prod.fst hx
    have h1 := hw ((n + (m - n)) * Tryz.prog.bytesOf JT) (by rw [hd]; simp [DataW.weights, Tryz.underlying57])
    rw [show Tryz.prog.bytesOf JT = 32 from by kernel_rfl] at h1
    have hrb := reachBytes_lt
    have e47 : (2 : Nat) ^ 47 = 140737488355328 := by decide
    rw [e47] at hrb
    omega
set_option maxRecDepth 100000 in
/-- How many jobs a task has that comes in. -/
theorem task_bound {ts : List TypeId} {ds : List (DataW H)} (hsz : (DataW.weightsEach Tryz.prog ts ds).all (· ≤ reachBytes) = true) {j : Nat} {d0 dJ dA : DataW H} (ht : ts[j]? = some 61) (hd : ds[j]? = some (.agg [d0, dJ, dA]))
    {fj : Nat} {sv : Value} {PJ : List MemPlace} (hs : DataW.trod enc Tryz.prog w 0 spare held fj 57 [sv] = some (dJ, PJ)) : ∀ p n c, sv = .slice p n c → n * 32 ≤ 140737488355328 := by
  refine jobs_bound hs fun m hm => ?_
  have h1 := List.all_eq_true.1 hsz m (DataW.weights_mem_each ht hd m (by
    simp only [DataW.weights, Tryz.underlying61]
    exact DataW.weights_mem_each (j := 1) (t := 57) rfl rfl m hm))
  simpa using h1
end
end Go.Proofs.YthbkinopgialmaaGreatDoor
/- A slice of tasks that comes in, opened to cells; no condition but those that each row names. -/
namespace Go.Proofs.YthbkinopgialmaaGreatDoor
open Go.ChangeShapes Go.WideShapes Go.RowKit Go.ChangeMaps Go.Deep Tsk

section
variable {H : Type} {enc : TypeId × Value → H} {w : World} {spare : Nat → Bool} {held : Bool}
theorem weights_all {P : Program} {e : TypeId} : ∀ {l : List (DataW H)} {d : DataW H}, d ∈ l → ∀ n ∈ d.weights P e, n ∈ DataW.weightsAll P e l
  | [], _, h, _, _ => by cases h
  | d0 :: l, d, h, n, hn => by
    simp only [DataW.weightsAll, List.mem_append]
    rcases List.mem_cons.1 h with rfl | h
    · exact .inl hn
    · exact .inr (weights_all h n hn)
set_option maxRecDepth 100000 in
theorem open_tasks {fuel : Nat} {v : Value} {x : DataW H × List MemPlace} (h : DataW.trod enc Tryz.prog w 0 spare held fuel 29 [v] = some x) (hw : ∀ m ∈ x.1.weights Tryz.prog 29, m ≤ reachBytes) :
    ∃ n T, Tasks w v n T ∧ n * 80 ≤ 140737488355328 ∧ ∀ j, j < n → (T j).k.c ≤ 9223372036854775807 ∧ (T j).n * 32 ≤ 140737488355328 := by
  rcases open_slice Tryz.underlying29 h with ⟨hc, _⟩ | ⟨a, len, cap, m, n, D, Pl, hcs, _, hl, hm, hmm, hx, hi⟩
  · simp at hc
    subst hc
    exact ⟨0, fun _ => ⟨0, .slice none 0 0, 0, fun _ => ⟨0, 0, 0, 0⟩, ⟨0, 0, 0, 0, 0, 0⟩⟩, ⟨none, 0, rfl, by omega, fun j hj => absurd hj (Nat.not_lt_zero _)⟩, by omega, fun j hj => absurd hj (Nat.not_lt_zero _)⟩
  · simp at hcs
    subst hcs
    have hlm : len ≤ m := by rw [hmm]; split <;> omega
    have hrb := reachBytes_lt
    have e47 : (2 : Nat) ^ 47 = 140737488355328 := by decide
    rw [e47] at hrb
    have hd : x.1 = .slice ((List.range len).map D) ((List.range (m - len)).map fun j => D (len + j)) := congrArg Prod.fst hx
    have hbytes : len * 80 ≤ 140737488355328 := by
      have h1 := hw ((len + (m - len)) * Tryz.prog.bytesOf KT) (by rw [hd]; simp [DataW.weights, Tryz.underlying29])
      rw [show Tryz.prog.bytesOf KT = 80 from by kernel_rfl] at h1
      omega
    have hpl : 0 < len → ∃ b off, a = ⟨b, off, none⟩ := fun h0 => by
      obtain ⟨cs', hc, ht⟩ := hi 0 (by omega)
      rw [cellsTask] at hc
      obtain ⟨_, hcl, hat⟩ := World.cells?_some hc
      match cs', hcl with
      | [u0, u1, u2, u3, u4, u5, u6, u7], _ =>
        have h0 := hat 0 (by simp)
        simp only [List.getElem?_cons_zero] at h0
        exact plain_addr (by simpa [Addr.add] using h0)
    have hel : ∀ i, i < len → ∃ q : Tk, (∃ b off, a = ⟨b, off, none⟩ ∧ w.cell? ⟨b, off + i * 8, none⟩ = some (.int .i64 q.p) ∧ w.cell? ⟨b, off + i * 8 + 1, none⟩ = some q.s ∧ w.cell? ⟨b, off + i * 8 + 2, none⟩ = some (.int .i64 q.k.g) ∧ w.cell? ⟨b, off + i * 8 + 3, none⟩ = some (.int .i64 q.k.o) ∧ w.cell? ⟨b, off + i * 8 + 4, none⟩ = some (.int .i64 q.k.n) ∧ w.cell? ⟨b, off + i * 8 + 5, none⟩ = some (.int .i64 q.k.d) ∧ w.cell? ⟨b, off + i * 8 + 6, none⟩ = some (.int .i64 q.k.c) ∧ w.cell? ⟨b, off + i * 8 + 7, none⟩ = some (.int .i64 q.k.t) ∧ Jobs w q.s q.n q.f) ∧ q.k.c ≤ 9223372036854775807 ∧ q.n * 32 ≤ 140737488355328 := fun i hil => by
      obtain ⟨cs', hc, ht⟩ := hi i (by omega)
      rw [cellsTask] at hc
      obtain ⟨_, hcl, hat⟩ := World.cells?_some hc
      obtain ⟨p0, sv, k, nj, f, d0, dJ, dA, PJ, fj, e, hj, hc4, hdi, hs⟩ := open_task_cells hcl ht
      subst e
      obtain ⟨b, off, rfl⟩ := hpl (by omega)
      have g := fun (j : Nat) (hj : j < 8) => hat j hj
      have g0 := g 0 (by omega)
      have g1 := g 1 (by omega)
      have g2 := g 2 (by omega)
      have g3 := g 3 (by omega)
      have g4 := g 4 (by omega)
      have g5 := g 5 (by omega)
      have g6 := g 6 (by omega)
      have g7 := g 7 (by omega)
      simp only [add_add, List.getElem?_cons_zero, List.getElem?_cons_succ] at g0 g1 g2 g3 g4 g5 g6 g7
      rw [addr_plus] at g0 g1 g2 g3 g4 g5 g6 g7
      refine ⟨⟨p0, sv, nj, f, k⟩, ⟨b, off, rfl, by simpa using g0, by rw [Nat.add_assoc]; exact g1, by rw [Nat.add_assoc]; exact g2, by rw [Nat.add_assoc]; exact g3, by rw [Nat.add_assoc]; exact g4, by rw [Nat.add_assoc]; exact g5, by rw [Nat.add_assoc]; exact g6, by rw [Nat.add_assoc]; exact g7, hj⟩, hc4, ?_⟩
      have hb := jobs_bound hs (fun m' hm' => hw m' (by
        have hdi' : D i = .agg [d0, dJ, dA] := hdi
        have h1 : m' ∈ (D i).weights Tryz.prog KT := by
          rw [hdi']
          simp only [DataW.weights, Tryz.underlying61]
          exact DataW.weights_mem_each (j := 1) (t := 57) rfl rfl m' hm'
        rw [hd]
        simp only [DataW.weights, Tryz.underlying29, List.mem_cons, List.mem_append]
        exact .inr (.inl (weights_all (List.mem_map.2 ⟨i, List.mem_range.2 hil, rfl⟩) m' h1))))
      have hjj := hj
      obtain ⟨pp0, cc0, ee, _, _⟩ := hjj
      exact hb _ _ _ ee
    refine ⟨len, fun i => if hil : i < len then Classical.choose (hel i hil) else ⟨0, .slice none 0 0, 0, fun _ => ⟨0, 0, 0, 0⟩, ⟨0, 0, 0, 0, 0, 0⟩⟩, ⟨some a, cap, rfl, by unfold maxLen at hm; omega, fun j hj => ?_⟩, hbytes, fun j hj => ?_⟩
    · obtain ⟨b, off, ha, c⟩ := (Classical.choose_spec (hel j hj)).1
      refine ⟨b, off, by rw [ha], ?_⟩
      simp only [dif_pos hj]
      exact c
    · simp only [dif_pos hj]
      exact (Classical.choose_spec (hel j hj)).2
end
end Go.Proofs.YthbkinopgialmaaGreatDoor
/- What comes in opened to cells: a slice of numbers, of bools; no condition but those that each row names. -/
namespace Go.Proofs.YthbkinopgialmaaGreatDoor
open Go.ChangeShapes Go.WideShapes Go.RowKit Go.ChangeMaps Go.Deep Go.Joins

theorem cellsBz : Tryz.prog.cellsOf 4 = 1 := by kernel_rfl
section
variable {H : Type} {enc : TypeId × Value → H} {w : World} {spare : Nat → Bool} {held : Bool}

set_option maxRecDepth 100000 in
theorem open_nums {fuel : Nat} {v : Value} {x : DataW H × List MemPlace} (h : DataW.trod enc Tryz.prog w 0 spare held fuel 25 [v] = some x) : ∃ l, Lst (fun _ => False) w v (ints l) := by
  rcases open_slice Tryz.underlying25 h with ⟨hc, _⟩ | ⟨a, len, cap, m, n, D, Pl, hcs, _, hl, hm, hmm, _, hi⟩
  · simp at hc
    subst hc
    exact ⟨[], Lst.nil _ _⟩
  · simp at hcs
    subst hcs
    have hlm : len ≤ m := by rw [hmm]; split <;> omega
    have hel : ∀ i, i < len → ∃ q : Int, w.cell? (a.add i) = some (.int .i64 q) := fun i hil => by
      obtain ⟨cs', hc, ht⟩ := hi i (by omega)
      rw [cellsIntz] at hc
      obtain ⟨_, hcl, hat⟩ := World.cells?_some hc
      match cs', hcl with
      | [u0], _ =>
        obtain ⟨z0, e0, _, _⟩ := DataW.trod_int Tryz.underlying3 ht
        simp at e0
        subst e0
        have h0 := hat 0 (by simp)
        simp only [List.getElem?_cons_zero] at h0
        exact ⟨z0, by simpa [Addr.add] using h0⟩
    have hpl : ∀ i, i < len → ∃ b off, a = ⟨b, off, none⟩ := fun i hil => by
      obtain ⟨q, hq⟩ := hel 0 (by omega)
      exact plain_addrz (by simpa [Addr.add] using hq)
    refine ⟨(List.range len).map fun i => if hil : i < len then Classical.choose (hel i hil) else 0, some a, cap, by simp [ints], by simp [ints]; unfold maxLen at hm; omega, fun j x hj => ?_⟩
    have hjl : j < len := by
      have := (List.getElem?_eq_some_iff.1 hj).1
      simpa [ints] using this
    unfold ints at hj
    rw [List.getElem?_map, List.getElem?_map, List.getElem?_range hjl] at hj
    simp only [Option.map_some, dif_pos hjl, Option.some.injEq] at hj
    obtain ⟨b, off, ha⟩ := hpl j hjl
    have hc := Classical.choose_spec (hel j hjl)
    rw [hj] at hc
    subst ha
    rw [addr_plus] at hc
    exact ⟨b, off, rfl, fun k => k, hc⟩

set_option maxRecDepth 100000 in
theorem open_flags {fuel : Nat} {v : Value} {x : DataW H × List MemPlace} (h : DataW.trod enc Tryz.prog w 0 spare held fuel 26 [v] = some x) : ∃ l, Lst (fun _ => False) w v (bools l) := by
  rcases open_slice Tryz.underlying26 h with ⟨hc, _⟩ | ⟨a, len, cap, m, n, D, Pl, hcs, _, hl, hm, hmm, _, hi⟩
  · simp at hc
    subst hc
    exact ⟨[], Lst.nil _ _⟩
  · simp at hcs
    subst hcs
    have hlm : len ≤ m := by rw [hmm]; split <;> omega
    have hel : ∀ i, i < len → ∃ q : Bool, w.cell? (a.add i) = some (.bool q) := fun i hil => by
      obtain ⟨cs', hc, ht⟩ := hi i (by omega)
      rw [cellsBz] at hc
      obtain ⟨_, hcl, hat⟩ := World.cells?_some hc
      match cs', hcl with
      | [u0], _ =>
        obtain ⟨z0, e0, _⟩ := DataW.trod_bool Tryz.underlying4 ht
        simp at e0
        subst e0
        have h0 := hat 0 (by simp)
        simp only [List.getElem?_cons_zero] at h0
        exact ⟨z0, by simpa [Addr.add] using h0⟩
    have hpl : ∀ i, i < len → ∃ b off, a = ⟨b, off, none⟩ := fun i hil => by
      obtain ⟨q, hq⟩ := hel 0 (by omega)
      exact plain_addrz (by simpa [Addr.add] using hq)
    refine ⟨(List.range len).map fun i => if hil : i < len then Classical.choose (hel i hil) else false, some a, cap, by simp [bools], by simp [bools]; unfold maxLen at hm; omega, fun j x hj => ?_⟩
    have hjl : j < len := by
      have := (List.getElem?_eq_some_iff.1 hj).1
      simpa [bools] using this
    unfold bools at hj
    rw [List.getElem?_map, List.getElem?_map, List.getElem?_range hjl] at hj
    simp only [Option.map_some, dif_pos hjl, Option.some.injEq] at hj
    obtain ⟨b, off, ha⟩ := hpl j hjl
    have hc := Classical.choose_spec (hel j hjl)
    rw [hj] at hc
    subst ha
    rw [addr_plus] at hc
    exact ⟨b, off, rfl, fun k => k, hc⟩
end
end Go.Proofs.YthbkinopgialmaaGreatDoor
