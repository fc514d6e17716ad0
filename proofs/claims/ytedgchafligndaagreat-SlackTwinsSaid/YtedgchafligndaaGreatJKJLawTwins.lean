/- The walk of the law SlackTwins: it answers true whatever is done to a pool and to its twin; no condition. -/
import Derived.Test.YtedgchafligndaaGreatJKJTwo
import Derived.Test.YtedgchafligndaaGreatJB11
import Derived.Test.YtedgchafligndaaGreatJB13
import Derived.Test.YtedgchafligndaaGreatJKJOpens
import Derived.Deep.CutBlock
namespace Go.Proofs.YtedgchafligndaaGreat
open Go.RowKit Tsk

theorem Opsz.at {w W : World} {q : Option Addr} {m cap : Nat} {O : Nat → Oz} (h : Opsz w (.slice q m cap) m O) (hb : Below w.heap.size w W) {i : Nat} (hi : i < m) : ∃ b off, q = some ⟨b, off, none⟩ ∧ b < w.heap.size ∧ W.cell? ⟨b, off + i * 7, none⟩ = some (.int .i64 (O i).k) ∧ W.cell? ⟨b, off + i * 7 + 1, none⟩ = some (.int .i64 (O i).n) ∧ W.cell? ⟨b, off + i * 7 + 2, none⟩ = some (.int .i64 (O i).h) ∧ W.cell? ⟨b, off + i * 7 + 3, none⟩ = some (.int .i64 (O i).j.l) ∧ W.cell? ⟨b, off + i * 7 + 4, none⟩ = some (.int .i64 (O i).j.c) ∧ W.cell? ⟨b, off + i * 7 + 5, none⟩ = some (.int .i64 (O i).j.a) ∧ W.cell? ⟨b, off + i * 7 + 6, none⟩ = some (.int .i64 (O i).j.d) := by
  obtain ⟨_, _, e, _, hc⟩ := h
  simp only [Value.slice.injEq] at e
  obtain ⟨b, off, e2, c0, c1, c2, c3, c4, c5, c6⟩ := hc i hi
  have hl : b < w.heap.size := cell_lt c0
  have k := fun (o : Nat) => hb.cell (p := ⟨b, o, none⟩) hl
  exact ⟨b, off, by rw [e.1]; exact e2, hl, (k _).trans c0, (k _).trans c1, (k _).trans c2, (k _).trans c3, (k _).trans c4, (k _).trans c5, (k _).trans c6⟩
/-- What the law's loop carries. -/
def RunsW (w : World) (S : Nat → Prop) (R : Nat) (v : Value) (k : Nat) (wr : World) : Prop := ∃ X A T la gs ts ks wv L now, PlayR S X w.heap.size R wr A T la v gs ts ks wv L now ∧ L.length ≤ k ∧ Below w.heap.size w wr
/-- What the loops behind carry: the pool, the handles that were told. -/
def RemW (w : World) (S : Nat → Prop) (A1 : Tab) (la1 : Int) (v : Value) (pl : Option Addr) (cl : Nat) (k : Nat) (wr : World) : Prop :=
  ∃ A T, PI A T la1 ∧ Pl S S w.heap.size wr A T la1 v ∧ Went A1 A k ∧ Lst S wr (.slice pl A1.idxs.length cl) (ints A1.all) ∧ Below w.heap.size w wr
set_option maxHeartbeats 8000000 in
set_option maxRecDepth 100000 in
theorem twins_any (v : Value) (m : Nat) (O : Nat → Oz) (v' : Value) (m' : Nat) (O' : Nat → Oz) (w : World) (h : Opsz w v m O) (h' : Opsz w v' m' O') : Calls Tryz.prog 4 #[v, v'] w fun e w' => e = .returned (.bool true) ∧ Below w.heap.size w w' := by
  have HOP := Lib.hid h
  have HOP' := Lib.hid h'
  obtain ⟨q, cap, rfl, hm63, _⟩ := h
  obtain ⟨q', cap', rfl, hm63', _⟩ := h'
  have HN := Lib.hid (plnew w)
  have HWK := Lib.hid (fun W => works_any W)
  go_enter Tryz.func4, Tryz.ntmps4
  go_wp2_with fail
  refine HN.out.mono ?_
  rintro e w1 ⟨S, v1, rfl, hL, hb1⟩
  have HLF := Lib.hid hL
  have HB1 := Lib.hid hb1
  obtain ⟨bl, rfl, hSbl⟩ := (hL S).ptr
  have HSL := Lib.hid (hL S).lt
  have HRN := Lib.hid (rnew14 w1)
  unfold NewR14 at HRN
  clear hL hb1
  by_cases hm : m ≤ 500 ∧ m' ≤ 500
  · obtain ⟨hm1, hm1'⟩ := hm
    have hm2 : ¬ (500 : Int) < (m : Int) := by omega
    have hm2' : ¬ (500 : Int) < (m' : Int) := by omega
    go_wp2_with fail
    refine HRN.out.mono ?_
    rintro e w2 ⟨gs, ts, ks, rfl, ho2, hb2⟩
    have HD2 := Lib.hid (ho2.dp (A := Tab.new 3 16) (X := S) (by simp [Tab.new]) (by simp [Tab.new]) (fun x hx => (HSL.out x hx).2))
    obtain ⟨p1, cp1, p2, cp2, p3, cp3, _, rfl, rfl, rfl, _⟩ := HD2.out.shape PI.new.good
    have HB2 := Lib.hid hb2
    clear ho2 hb2
    go_upto_block 0 with fail
    obtain ⟨w3, hw3⟩ : ∃ w3, w3 = w2.alloc (.cells #[.slice p1 16 cp1, .slice p2 16 cp2, .slice p3 16 cp3, .int .i64 (-1), N0, .int .i64 0] RT14) := ⟨_, rfl⟩
    rw [← hw3]
    have HPL := Lib.hid (show RunsW w S w2.heap.size (.pointer (some ⟨bl, 0, none⟩)) 0 w3 from by
      have hb : Below w2.heap.size w2 w3 := by rw [hw3]; exact (Below.refl _ _).alloc (Nat.le_refl _) _
      have hs : w3.heap.size = w2.heap.size + 1 := by rw [hw3]; simp
      have h2 := HB2.out.size
      have hsw := fun x (hx : S x) => HSL.out x hx
      refine ⟨fun x => S x ∨ x = w2.heap.size, Tab.new 3 16, fun _ => tk0, -1, _, _, _, N0, [], 0, ⟨⟨PI.new, ((HLF.out _).below HB2.out).below hb, (HD2.out.mono (fun x hx q => by rcases q with q | q; exact q; omega)).below hb, World.ownsRow_nil _ _ _ _, fun x q => .inl q, fun g e => (by cases e), fun g e => (by cases e), fun x q => ?_⟩, by rw [hw3]; exact hasR_new _ _ _ _ _ _ _, .inr rfl, fun q => by have := (hsw _ q).2; omega, fun g e => (by cases e)⟩, Nat.le_refl _, bnext (bnext HB1.out HB2.out) hb⟩
      rcases q with q | q
      · have := (hsw x q).2; omega
      · omega)
    have HRW := Lib.hid (show w.heap.size ≤ w2.heap.size from (bnext HB1.out HB2.out).size)
    clear hw3
    generalize w2.heap.size = R at *
    clear HD2 HB2 HB1 HLF HRN HN
    go_wp2_with fail
    go_loopw [7] (fun iv wr => ∃ k : Nat, iv = .int .i64 k ∧ k ≤ m ∧ Hid (RunsW w S R (.pointer (some ⟨bl, 0, none⟩)) k wr)) (fun iv _ => m - (intOf iv).toNat)
    case atStart => exact ⟨0, rfl, Nat.zero_le _, HPL⟩
    case round =>
      clear HPL
      obtain ⟨k, rfl, hkm, HP⟩ := hrel
      obtain ⟨X, A, T, la, gs, ts, ks, wv, L, now, hp, hLk, hbw⟩ := HP.out
      obtain ⟨p1, cp1, p2, cp2, p3, cp3, _, rfl, rfl, rfl, _⟩ := hp.ro.dp.shape hp.ro.pi.good
      obtain ⟨pw, cw, rfl⟩ := own_slice hp.ro.row
      have HPZ := Lib.hid hp
      have HBW := Lib.hid hbw
      have z0 : (0 : Int) ≤ (k : Int) := by omega
      clear hp hbw HP
      obtain ⟨a0, a1, a2, a3, a4, a5⟩ := HPZ.out.hr.cells
      by_cases hlt : k < m
      · have z1 : (k : Int) < (m : Int) := by omega
        obtain ⟨b, off, rfl, hbl, e0, e1, e2, e3, e4, e5, e6⟩ := HOP.out.at HBW.out hlt
        obtain ⟨o, ho⟩ : ∃ o, o = O k := ⟨_, rfl⟩
        rw [← ho] at e0 e1 e2 e3 e4 e5 e6
        clear ho
        obtain ⟨ok, on, oh, ⟨ol, oc, oa, od⟩⟩ := o
        dsimp only at e0 e1 e2 e3 e4 e5 e6
        have HST1 := Lib.hid (do_any _ _ _ _ _ _ now ok on oh ol oc oa od _ _ _ _ _ _ _ (HPZ.out.ro.below below_drewOne) (by omega))
        have HST2 := Lib.hid (do_any _ _ _ _ _ _ now ok on oh ol oc oa od _ _ _ _ _ _ _ (HPZ.out.in2 (W := (wr.alloc (.cells #[N0, N0, N0, .int .i64 0, N0, .int .i64 0] RT14)).drew) ((Below.refl _ _).alloc (Nat.le_refl _) _).drew (by simp [World.drew])) (by omega))
        unfold DoPost at HST1 HST2
        have hlb : b < wr.heap.size := Nat.lt_of_lt_of_le hbl HBW.out.size
        have hlr : R < wr.heap.size := has_lt HPZ.out.hr
        go_upto_region 8 with fail
        have HXZ := Lib.hid (show ∀ W, Keeps (fun x => S x ∨ (Value.slice pw L.length cw).ownBlock = some x) (wr.alloc (.cells #[N0, N0, N0, .int .i64 0, N0, .int .i64 0] RT14)).drew W → HasR W wr.heap.size N0 N0 N0 0 N0 0 from fun W hk => has_keeps (has_drew (hasR_new wr N0 N0 N0 0 N0 0)) hk (by
          rintro (q | q)
          · have := (HPZ.out.ro.pl.lt _ q).2; omega
          · have := HPZ.out.ro.xw _ (HPZ.out.ro.rx _ q); omega))
        go_cut [8, 9] (fun xv kv wx => ∃ X' A' T' la' gs' ts' ks' wv' L' now' bx, xv = .pointer (some ⟨bx, 0, none⟩) ∧ kv = .bool true ∧ Hid (CutR S X' w.heap.size R wr (.pointer (some ⟨bl, 0, none⟩)) (.slice pw L.length cw) L.length A' T' la' gs' ts' ks' wv' L' now' bx wx))
        case first =>
          go_region_law (first
            | (go_simp; go_at_call 12; refine HST1.out.mono ?_; rintro e w4 ⟨X', A', T', la', gs', ts', ks', wv', L', now', rfl, hr4, hl4, hx4, hw4, hk4⟩; obtain ⟨q1, cq1, q2, cq2, q3, cq3, _, rfl, rfl, rfl, _⟩ := hr4.dp.shape hr4.pi.good; obtain ⟨qw, dw, rfl⟩ := own_slice hr4.row; have HR4 := Lib.hid hr4; have HL4 := Lib.hid hl4; have HX4 := Lib.hid hx4; have HW4 := Lib.hid hw4; have HK4 := Lib.hid hk4; clear hr4 hl4 hx4 hw4 hk4)
            | (go_simp; go_at_call 12; refine HST2.out.mono ?_; rintro e w4 ⟨X', A', T', la', gs', ts', ks', wv', L', now', rfl, hr4, hl4, hx4, hw4, hk4⟩; obtain ⟨q1, cq1, q2, cq2, q3, cq3, _, rfl, rfl, rfl, _⟩ := hr4.dp.shape hr4.pi.good; obtain ⟨qw, dw, rfl⟩ := own_slice hr4.row; have HR4 := Lib.hid hr4; have HL4 := Lib.hid hl4; have HX4 := Lib.hid hx4; have HW4 := Lib.hid hw4; have HK4 := Lib.hid hk4; have HZ4 := Lib.hid (HXZ.out _ hk4); obtain ⟨x0, x1, x2, x3, x4, x5⟩ := HZ4.out.cells; have fx := fun j => has_free HZ4.out j; clear hr4 hl4 hx4 hw4 hk4))
          all_goals
            go_wp2_with fail
            go_meet
            refine ⟨X', A', T', la', .slice q1 16 cq1, .slice q2 16 cq2, .slice q3 16 cq3, .slice qw L'.length dw, L', now', _, rfl, rfl, Lib.hid ?_⟩
            first
              | (with_reducible exact HPZ.out.cutA HR4.out HL4.out HX4.out HW4.out HK4.out)
              | (with_reducible exact HPZ.out.cutB HR4.out HL4.out HX4.out HW4.out HK4.out)
        case rest =>
          obtain ⟨X', A', T', la', gs', ts', ks', wv', L', now', bx, rfl, rfl, HC⟩ := hcut
          obtain ⟨q1, cq1, q2, cq2, q3, cq3, _, rfl, rfl, rfl, _⟩ := HC.out.ro.dp.shape HC.out.ro.pi.good
          obtain ⟨qw, dw, rfl⟩ := own_slice HC.out.ro.row
          clear a0 a1 a2 a3 a4 a5 e0 e1 e2 e3 e4 e5 e6 HST1 HST2 HXZ hlb hlr
          obtain ⟨x0, x1, x2, x3, x4, x5⟩ := HC.out.hx.cells
          obtain ⟨_, _, _, _, _, _, hr⟩ := HC.out.hr
          obtain ⟨y0, y1, y2, y3, y4, y5⟩ := hr.cells
          have fr := fun j => has_free hr j
          have hne : ¬ R = bx := by have := HC.out.ne; omega
          have hne2 : ¬ bx = R := by have := HC.out.ne; omega
          have hT := HC.out.turn
          have hBN : Below w.heap.size w _ := below_keeps HBW.out hT.2 (fun x q => by
            rcases q with (q | q) | q
            · exact (HSL.out x q).1
            · exact (World.ownsRow.lt HPZ.out.ro.row x q).1
            · have := HRW.out; omega)
          have HLN := Lib.hid (show L'.length ≤ k + 1 from by have := HC.out.len; omega)
          clear hr
          go_upto_region 10 with fail
          obtain ⟨W6, hW6⟩ : ∃ W6, W6 = st6 wc R (.slice q1 16 cq1) (.slice q2 16 cq2) (.slice q3 16 cq3) (.int .i64 la') (.slice qw L'.length dw) (.int .i64 now') := ⟨_, rfl⟩
          rw [← hW6] at hT hBN
          unfold st6 at hW6
          rw [← hW6]
          have HT := Lib.hid hT.1
          have HBN := Lib.hid hBN
          clear hW6 hT hBN x0 x1 x2 x3 x4 x5 y0 y1 y2 y3 y4 y5 fr hne hne2
          go_wp2_with fail
          go_roundw
          case rel => exact ⟨k + 1, by go_num, by omega, Lib.hid ⟨X', A', T', la', _, _, _, _, L', now', HT.out, HLN.out, HBN.out⟩⟩
          case measure => simp [intOf]; omega
      · obtain rfl : k = m := by omega
        clear hlt
        have HTWN := Lib.hid (pltwin S X w.heap.size A T la HPZ.out.ro.pi.good HPZ.out.ro.pi.z HPZ.out.ro.pi.lo wr _ HPZ.out.ro.pl)
        unfold TwinPl at HTWN
        go_wp2_with fail
        refine HTWN.out.mono ?_
        rintro e w4 ⟨S2, vq, rfl, hq, hb4⟩
        obtain ⟨bq, rfl, _⟩ := (hq (fun _ => False) (fun _ k => k.elim)).ptr
        have HQ4 := Lib.hid hq
        have HB4 := Lib.hid hb4
        have HH4 := Lib.hid (HPZ.out.below hb4)
        have HSV := Lib.hid (saved_yes S2 _ _ wr.heap.size A T la HPZ.out.ro.pi.good _ _ _ _ w4 (hq (fun _ => False) (fun _ k => k.elim)) HH4.out.ro.dp)
        clear hq hb4 a0 a1 a2 a3 a4 a5
        obtain ⟨a0, a1, a2, a3, a4, a5⟩ := HH4.out.hr.cells
        go_wp2_with fail
        refine HSV.out.mono ?_
        rintro e w5 ⟨rfl, hb5⟩
        have HB5 := Lib.hid hb5
        have HH5 := Lib.hid (HH4.out.below hb5)
        clear hb5 a0 a1 a2 a3 a4 a5
        obtain ⟨a0, a1, a2, a3, a4, a5⟩ := HH5.out.hr.cells
        obtain ⟨W3, hW3⟩ : ∃ W3, W3 = w5.alloc (.cells #[.slice p1 16 cp1, .slice p2 16 cp2, .slice p3 16 cp3, .int .i64 la, .slice pw L.length cw, .int .i64 now] RT14) := ⟨_, rfl⟩
        obtain ⟨n0, hn0⟩ : ∃ n0, n0 = L.length := ⟨_, rfl⟩
        have hn500 : n0 ≤ 500 := by omega
        have hTW : TwW w S S2 R A T la (.pointer (some ⟨bl, 0, none⟩)) (.slice p1 16 cp1) (.slice p2 16 cp2) (.slice p3 16 cp3) w5.heap.size (.pointer (some ⟨bq, 0, none⟩)) n0 W3 := by
          obtain ⟨X2, h1, h2, h3, h4, h5⟩ := two_start HPZ.out HBW.out.size HQ4.out HB4.out HB5.out hW3
          exact ⟨X2, X2, A, T, la, _, _, _, _, L, now, h1, h2, h3, h4, h5, by omega, bnext (bnext (bnext HBW.out HB4.out) HB5.out) (by rw [hW3]; exact (Below.refl _ _).alloc (Nat.le_refl _) _)⟩
        have HTW := Lib.hid hTW
        have HPI1 := Lib.hid HPZ.out.ro.pi
        have HRW2 := Lib.hid (show w.heap.size ≤ w5.heap.size from (bnext (bnext HBW.out HB4.out) HB5.out).size)
        clear hTW
        go_upto_block 2 with fail
        rw [← hW3]
        generalize w5.heap.size = R2 at *
        obtain ⟨A1, hA1⟩ : ∃ A1, A1 = A := ⟨_, rfl⟩
        obtain ⟨T1, hT1⟩ : ∃ T1, T1 = T := ⟨_, rfl⟩
        obtain ⟨la1, hla1⟩ : ∃ la1, la1 = la := ⟨_, rfl⟩
        rw [← hA1, ← hT1, ← hla1] at HTW HPI1
        clear hA1 hT1 hla1 hW3 hn0 HQ4 HB4 HB5 HH4 HH5 HSV HTWN HPZ HBW a0 a1 a2 a3 a4 a5 hLk
        go_wp2_with fail
        go_loopw [12] (fun iv wr => ∃ k : Nat, iv = .int .i64 k ∧ k ≤ m' ∧ Hid (TwW w S S2 R A1 T1 la1 (.pointer (some ⟨bl, 0, none⟩)) (.slice p1 16 cp1) (.slice p2 16 cp2) (.slice p3 16 cp3) R2 (.pointer (some ⟨bq, 0, none⟩)) (n0 + k) wr)) (fun iv _ => m' - (intOf iv).toNat)
        case atStart => exact ⟨0, rfl, Nat.zero_le _, HTW⟩
        case round =>
          clear HTW
          obtain ⟨k, rfl, hkm', HP⟩ := hrel
          obtain ⟨X, Y, A, T, la, gs, ts, ks, wv, L, now, hp, hsd, hy1, hy2, hy3, hLk, hbw⟩ := HP.out
          obtain ⟨s1, cs1, s2, cs2, s3, cs3, _, rfl, rfl, rfl, _⟩ := hp.ro.dp.shape hp.ro.pi.good
          obtain ⟨pw, cw, rfl⟩ := own_slice hp.ro.row
          have HPZ := Lib.hid hp
          have HSD := Lib.hid hsd
          have HY1 := Lib.hid hy1
          have HY2 := Lib.hid hy2
          have HY3 := Lib.hid hy3
          have HBW := Lib.hid hbw
          have z0 : (0 : Int) ≤ (k : Int) := by omega
          clear hp hbw HP hsd hy1 hy2 hy3
          obtain ⟨a0, a1, a2, a3, a4, a5⟩ := HPZ.out.hr.cells
          by_cases hlt : k < m'
          · have z1 : (k : Int) < (m' : Int) := by omega
            obtain ⟨b, off, rfl, hbl, e0, e1, e2, e3, e4, e5, e6⟩ := HOP'.out.at HBW.out hlt
            obtain ⟨o, ho⟩ : ∃ o, o = O' k := ⟨_, rfl⟩
            rw [← ho] at e0 e1 e2 e3 e4 e5 e6
            clear ho
            obtain ⟨ok, on, oh, ⟨ol, oc, oa, od⟩⟩ := o
            dsimp only at e0 e1 e2 e3 e4 e5 e6
            have HST1 := Lib.hid (do_any _ _ _ _ _ _ now ok on oh ol oc oa od _ _ _ _ _ _ _ (HPZ.out.ro.below below_drewOne) (by omega))
            have HST2 := Lib.hid (do_any _ _ _ _ _ _ now ok on oh ol oc oa od _ _ _ _ _ _ _ (HPZ.out.in2 (W := (wr.alloc (.cells #[N0, N0, N0, .int .i64 0, N0, .int .i64 0] RT14)).drew) ((Below.refl _ _).alloc (Nat.le_refl _) _).drew (by simp [World.drew])) (by omega))
            unfold DoPost at HST1 HST2
            have hlb : b < wr.heap.size := Nat.lt_of_lt_of_le hbl HBW.out.size
            have hlr : R2 < wr.heap.size := has_lt HPZ.out.hr
            go_upto_region 19 with fail
            have HXZ := Lib.hid (show ∀ W, Keeps (fun x => S2 x ∨ (Value.slice pw L.length cw).ownBlock = some x) (wr.alloc (.cells #[N0, N0, N0, .int .i64 0, N0, .int .i64 0] RT14)).drew W → HasR W wr.heap.size N0 N0 N0 0 N0 0 from fun W hk => has_keeps (has_drew (hasR_new wr N0 N0 N0 0 N0 0)) hk (by
              rintro (q | q)
              · have := (HPZ.out.ro.pl.lt _ q).2; omega
              · have := HPZ.out.ro.xw _ (HPZ.out.ro.rx _ q); omega))
            go_cut [13, 14] (fun xv kv wx => ∃ X' A' T' la' gs' ts' ks' wv' L' now' bx, xv = .pointer (some ⟨bx, 0, none⟩) ∧ kv = .bool true ∧ Hid (CutR S2 X' w.heap.size R2 wr (.pointer (some ⟨bq, 0, none⟩)) (.slice pw L.length cw) L.length A' T' la' gs' ts' ks' wv' L' now' bx wx))
            case first =>
              go_region_law (first
                | (go_simp; go_at_call 12; refine HST1.out.mono ?_; rintro e w4 ⟨X', A', T', la', gs', ts', ks', wv', L', now', rfl, hr4, hl4, hx4, hw4, hk4⟩; obtain ⟨q1, cq1, q2, cq2, q3, cq3, _, rfl, rfl, rfl, _⟩ := hr4.dp.shape hr4.pi.good; obtain ⟨qw, dw, rfl⟩ := own_slice hr4.row; have HR4 := Lib.hid hr4; have HL4 := Lib.hid hl4; have HX4 := Lib.hid hx4; have HW4 := Lib.hid hw4; have HK4 := Lib.hid hk4; clear hr4 hl4 hx4 hw4 hk4)
                | (go_simp; go_at_call 12; refine HST2.out.mono ?_; rintro e w4 ⟨X', A', T', la', gs', ts', ks', wv', L', now', rfl, hr4, hl4, hx4, hw4, hk4⟩; obtain ⟨q1, cq1, q2, cq2, q3, cq3, _, rfl, rfl, rfl, _⟩ := hr4.dp.shape hr4.pi.good; obtain ⟨qw, dw, rfl⟩ := own_slice hr4.row; have HR4 := Lib.hid hr4; have HL4 := Lib.hid hl4; have HX4 := Lib.hid hx4; have HW4 := Lib.hid hw4; have HK4 := Lib.hid hk4; have HZ4 := Lib.hid (HXZ.out _ hk4); obtain ⟨x0, x1, x2, x3, x4, x5⟩ := HZ4.out.cells; have fx := fun j => has_free HZ4.out j; clear hr4 hl4 hx4 hw4 hk4))
              all_goals
                go_wp2_with fail
                go_meet
                refine ⟨X', A', T', la', .slice q1 16 cq1, .slice q2 16 cq2, .slice q3 16 cq3, .slice qw L'.length dw, L', now', _, rfl, rfl, Lib.hid ?_⟩
                first
                  | (with_reducible exact HPZ.out.cutA HR4.out HL4.out HX4.out HW4.out HK4.out)
                  | (with_reducible exact HPZ.out.cutB HR4.out HL4.out HX4.out HW4.out HK4.out)
            case rest =>
              obtain ⟨X', A', T', la', gs', ts', ks', wv', L', now', bx, rfl, rfl, HC⟩ := hcut
              obtain ⟨q1, cq1, q2, cq2, q3, cq3, _, rfl, rfl, rfl, _⟩ := HC.out.ro.dp.shape HC.out.ro.pi.good
              obtain ⟨qw, dw, rfl⟩ := own_slice HC.out.ro.row
              clear a0 a1 a2 a3 a4 a5 e0 e1 e2 e3 e4 e5 e6 HST1 HST2 HXZ hlb hlr
              obtain ⟨x0, x1, x2, x3, x4, x5⟩ := HC.out.hx.cells
              obtain ⟨_, _, _, _, _, _, hr⟩ := HC.out.hr
              obtain ⟨y0, y1, y2, y3, y4, y5⟩ := hr.cells
              have fr := fun j => has_free hr j
              have hne : ¬ R2 = bx := by have := HC.out.ne; omega
              have hne2 : ¬ bx = R2 := by have := HC.out.ne; omega
              have hT := HC.out.turn
              have hBN : Below w.heap.size w _ := below_keeps HBW.out hT.2 (fun x q => by
                rcases q with (q | q) | q
                · exact (HPZ.out.ro.pl.lt x q).1
                · exact (World.ownsRow.lt HPZ.out.ro.row x q).1
                · have := HRW2.out; omega)
              have HLN := Lib.hid (show L'.length ≤ n0 + (k + 1) from by have := HC.out.len; omega)
              have hTT := two_turn HSD.out HY1.out HY2.out HY3.out HC.out
              clear hr
              go_upto_region 21 with fail
              obtain ⟨W6, hW6⟩ : ∃ W6, W6 = st6 wc R2 (.slice q1 16 cq1) (.slice q2 16 cq2) (.slice q3 16 cq3) (.int .i64 la') (.slice qw L'.length dw) (.int .i64 now') := ⟨_, rfl⟩
              rw [← hW6] at hT hBN hTT
              unfold st6 at hW6
              rw [← hW6]
              obtain ⟨Y2, hs6, hq1, hq2, hq3⟩ := hTT
              have HT := Lib.hid hT.1
              have HBN := Lib.hid hBN
              have HS6 := Lib.hid hs6
              have HQ1 := Lib.hid hq1
              have HQ2 := Lib.hid hq2
              have HQ3 := Lib.hid hq3
              clear hW6 hT hBN hs6 hq1 hq2 hq3 x0 x1 x2 x3 x4 x5 y0 y1 y2 y3 y4 y5 fr hne hne2
              go_wp2_with fail
              go_roundw
              case rel => exact ⟨k + 1, by go_num, by omega, Lib.hid ⟨X', Y2, A', T', la', _, _, _, _, L', now', HT.out, HS6.out, HQ1.out, HQ2.out, HQ3.out, HLN.out, HBN.out⟩⟩
              case measure => simp [intOf]; omega
          · obtain rfl : k = m' := by omega
            clear hlt
            have HSV := Lib.hid (saved_yes _ _ _ _ _ _ _ HPZ.out.ro.pi.good _ _ _ _ _ HPZ.out.ro.pl HPZ.out.ro.dp)
            go_wp2_with fail
            refine HSV.out.mono ?_
            rintro e w7 ⟨rfl, hb7⟩
            have HS7 := Lib.hid (HSD.out.below hb7)
            have HB7 := Lib.hid (bnext HBW.out hb7)
            clear hb7 a0 a1 a2 a3 a4 a5
            obtain ⟨_, _, hr7⟩ := HS7.out.hr
            obtain ⟨a0, a1, a2, a3, a4, a5⟩ := hr7.cells
            have HSV2 := Lib.hid (saved_yes _ _ _ _ _ _ _ HPI1.out.good _ _ _ _ _ HS7.out.pl HS7.out.dp)
            go_wp2_with fail
            refine HSV2.out.mono ?_
            rintro e w8 ⟨rfl, hb8⟩
            have HP8 := Lib.hid ((HS7.out.pl.mono (Y := S) (fun x _ q => .inl q)).below hb8)
            have HB8 := Lib.hid (bnext HB7.out hb8)
            clear hb8 a0 a1 a2 a3 a4 a5 hr7
            have HLI := Lib.hid (pllist S S S w.heap.size A1 T1 la1 HPI1.out.good w8 _ HP8.out (fun x q => (HP8.out.lt x q).2))
            unfold AllPost at HLI
            go_wp2_with fail
            refine HLI.out.mono ?_
            rintro e w9 ⟨lv, rfl, hl9, hb9⟩
            have hl9' := hl9
            obtain ⟨pl, cl, rfl, hl63, _⟩ := hl9'
            have el : (ints A1.all).length = A1.idxs.length := by rw [ints_len, all_len]
            rw [el] at hl9 hl63 ⊢
            have HR9 := Lib.hid (show RemW w S A1 la1 (.pointer (some ⟨bl, 0, none⟩)) pl cl 0 w9 from ⟨A1, T1, HPI1.out, HP8.out.below hb9, Went.start A1, hl9, bnext HB8.out hb9⟩)
            clear hl9 hb9 HLI HSV2 HSV HS7 HP8 HB8 HB7
            have HA1 := Lib.hid HPI1.out.good.tab
            have HK1 := Lib.hid HPI1.out.good.kind
            generalize hnn : A1.idxs.length = n at *
            have HNN := Lib.hid hnn
            clear hnn
            go_wp2_with fail
            go_loopw [16] (fun iv wr => ∃ k : Nat, iv = .int .i64 k ∧ k ≤ n ∧ Hid (RemW w S A1 la1 (.pointer (some ⟨bl, 0, none⟩)) pl cl k wr)) (fun iv _ => n - (intOf iv).toNat)
            case atStart => exact ⟨0, rfl, Nat.zero_le _, HR9⟩
            case round =>
              clear HR9
              obtain ⟨k, rfl, hkn, HP⟩ := hrel
              have z0 : (0 : Int) ≤ (k : Int) := by omega
              by_cases hlt : k < n
              · have z1 : (k : Int) < (n : Int) := by omega
                obtain ⟨A, T, hpi, hpl, hwe, hl, hbw⟩ := HP.out
                obtain ⟨_, _, e0, _, hc0⟩ := id hl
                obtain ⟨b, off, e1, _, hcell⟩ := hc0 k _ (all_at (by rw [HNN.out]; exact hlt))
                simp only [Value.slice.injEq] at e0
                obtain ⟨e0, -, -⟩ := e0
                subst e0
                subst e1
                have hf := hwe.find hpi.good.tab (k := k) (by rw [HNN.out]; exact hlt)
                have HRM := Lib.hid (plremove S S w.heap.size A T la1 hpi.good wr _ hpl (fun _ q => q) (A1.hd (A1.idxs.getD k 0)))
                unfold PlPost at HRM
                have hn0 : dropN A (A1.hd (A1.idxs.getD k 0)) = 0 := by unfold dropN; rw [hf]
                have ha0 : dropA A (A1.hd (A1.idxs.getD k 0)) = A.dropAt (A1.idxs.getD k 0) := by unfold dropA; rw [hf]
                have HPI2 := Lib.hid (hpi.drop (A1.hd (A1.idxs.getD k 0)))
                rw [hn0, ha0, errV_0] at HRM
                rw [ha0] at HPI2
                have HWE := Lib.hid (hwe.drop hpi.good.tab (k := k) (by rw [HNN.out]; exact hlt))
                have HLL := Lib.hid hl
                have HBW := Lib.hid hbw
                generalize dropT A T (A1.hd (A1.idxs.getD k 0)) = T2 at *
                generalize A.dropAt (A1.idxs.getD k 0) = A2 at *
                generalize A1.hd (A1.idxs.getD k 0) = hx at *
                clear hpi hpl hwe hl hbw hc0 hf hn0 ha0 HP
                go_wp2_with fail
                refine HRM.out.mono ?_
                rintro e w10 ⟨rfl, hp10, hk10⟩
                have H10 := Lib.hid (show RemW w S A1 la1 (.pointer (some ⟨bl, 0, none⟩)) (some ⟨b, off, none⟩) cl (k + 1) w10 from ⟨A2, T2, HPI2.out, hp10, HWE.out, HLL.out.keeps hk10, below_keeps HBW.out hk10 (fun x q => (HSL.out x q).1)⟩)
                clear hp10 hk10
                go_wp2_with fail
                go_roundw
                case rel => exact ⟨k + 1, by go_num, by omega, H10⟩
                case measure => simp [intOf]; omega
              · obtain rfl : k = n := by omega
                clear hlt
                go_wp2_with fail
                go_loopw [17] (fun iv wr => ∃ i : Nat, iv = .int .i64 i ∧ i ≤ 16 ∧ Hid (RemW w S A1 la1 (.pointer (some ⟨bl, 0, none⟩)) pl cl k wr)) (fun iv _ => 16 - (intOf iv).toNat)
                case atStart => exact ⟨0, rfl, Nat.zero_le _, HP⟩
                case round =>
                  clear HP
                  obtain ⟨i, rfl, hi16, HP⟩ := hrel
                  have v0 : (0 : Int) ≤ (i : Int) := by omega
                  by_cases hit : i < 16
                  · have v1 : (i : Int) < 16 := by omega
                    obtain ⟨A, T, hpi, hpl, hwe, hl, hbw⟩ := HP.out
                    have HCR := Lib.hid (plcreate S S w.heap.size A T la1 hpi.good wr _ hpl (fun _ q => q) 0)
                    unfold PlPost at HCR
                    have HPI2 := Lib.hid (hpi.add 0)
                    have hwe2 : Went A1 (addA A 0) k := by
                      have h1 := hwe
                      rw [← HNN.out] at h1 ⊢
                      exact h1.add 0
                    have HWE := Lib.hid hwe2
                    have HLL := Lib.hid hl
                    have HBW := Lib.hid hbw
                    generalize addA A 0 = A2 at *
                    generalize addT A T 0 = T2 at *
                    generalize addH A 0 = ch at *
                    generalize addN A 0 = cn at *
                    clear hpi hpl hwe hwe2 hl hbw HP
                    go_wp2_with fail
                    refine HCR.out.mono ?_
                    rintro e w10 ⟨rfl, hp10, hk10⟩
                    have H10 := Lib.hid (show RemW w S A1 la1 (.pointer (some ⟨bl, 0, none⟩)) pl cl k w10 from ⟨A2, T2, HPI2.out, hp10, HWE.out, HLL.out.keeps hk10, below_keeps HBW.out hk10 (fun x q => (HSL.out x q).1)⟩)
                    clear hp10 hk10
                    go_wp2_with fail
                    go_roundw
                    case rel => exact ⟨i + 1, by go_num, by omega, H10⟩
                    case measure => simp [intOf]; omega
                  · have v1 : ¬ ((i : Int) < 16) := by omega
                    clear hit
                    have HNU := Lib.hid (fun W => num_errno 20 W)
                    go_wp2_with fail
                    go_loopw [18] (fun iv wr => ∃ j : Nat, iv = .int .i64 j ∧ j ≤ k ∧ Hid (RemW w S A1 la1 (.pointer (some ⟨bl, 0, none⟩)) pl cl k wr)) (fun iv _ => k - (intOf iv).toNat)
                    case atStart => exact ⟨0, rfl, Nat.zero_le _, HP⟩
                    case round =>
                      clear HP
                      obtain ⟨j, rfl, hjk, HP⟩ := hrel
                      have s0 : (0 : Int) ≤ (j : Int) := by omega
                      by_cases hjt : j < k
                      · have s1 : (j : Int) < (k : Int) := by omega
                        obtain ⟨A, T, hpi, hpl, hwe, hl, hbw⟩ := HP.out
                        obtain ⟨_, _, e0, _, hc0⟩ := id hl
                        obtain ⟨b, off, e1, _, hcell⟩ := hc0 j _ (all_at (by rw [HNN.out]; exact hjt))
                        simp only [Value.slice.injEq] at e0
                        obtain ⟨e0, -, -⟩ := e0
                        subst e0
                        subst e1
                        have hjn : j < A1.idxs.length := by rw [HNN.out]; exact hjt
                        have hf : A.find (A1.hd (A1.idxs.getD j 0)) = none := by
                          have h1 := hwe
                          rw [← HNN.out] at h1
                          exact h1.none HA1.out hpi.good.tab hjn
                        have hpt := hd_parts HA1.out (idxs_at hjn).1 (idxs_at hjn).2
                        have HRM := Lib.hid (plremove S S w.heap.size A T la1 hpi.good wr _ hpl (fun _ q => q) (A1.hd (A1.idxs.getD j 0)))
                        unfold PlPost at HRM
                        have hn0 : dropN A (A1.hd (A1.idxs.getD j 0)) = 20 := by unfold dropN; rw [hf]
                        have ha0 : dropA A (A1.hd (A1.idxs.getD j 0)) = A := by unfold dropA; rw [hf]
                        have ht0 : dropT A T (A1.hd (A1.idxs.getD j 0)) = T := by unfold dropT; rw [hf]
                        rw [hn0, ha0, ht0, errV_ne (by decide)] at HRM
                        have HKD := Lib.hid (fun W => (show Calls Tryz.prog 19 #[.int .i64 (A1.hd (A1.idxs.getD j 0))] W fun e w' => e = .returned (.int .i64 3) ∧ W = w' from by
                          have h1 := rkind_ok _ W hpt.1
                          rw [hpt.2.1, HK1.out] at h1
                          exact h1))
                        have HPI2 := Lib.hid hpi
                        have HWE := Lib.hid hwe
                        have HLL := Lib.hid hl
                        have HBW := Lib.hid hbw
                        have HCE := Lib.hid (fun W (hk : Keeps S wr W) => (show W.cell? ⟨b, off + j, none⟩ = some (.int .i64 (A1.hd (A1.idxs.getD j 0))) from by
                          obtain ⟨_, _, e0, _, hc1⟩ := hl.keeps hk
                          obtain ⟨b', off', e1, _, hcell'⟩ := hc1 j _ (all_at hjn)
                          simp only [Value.slice.injEq] at e0
                          rw [← e0.1] at e1
                          cases e1
                          exact hcell'))
                        generalize A1.hd (A1.idxs.getD j 0) = hx at *
                        clear hpi hpl hwe hl hbw hc0 hf hn0 ha0 ht0 hpt HP
                        go_wp2_with fail
                        refine HRM.out.mono ?_
                        rintro e w10 ⟨rfl, hp10, hk10⟩
                        have H10 := Lib.hid (show RemW w S A1 la1 (.pointer (some ⟨bl, 0, none⟩)) (some ⟨b, off, none⟩) cl k w10 from ⟨A, T, HPI2.out, hp10, HWE.out, HLL.out.keeps hk10, below_keeps HBW.out hk10 (fun x q => (HSL.out x q).1)⟩)
                        have hcell2 := HCE.out w10 hk10
                        clear hp10 hk10 hcell
                        go_wp2_with fail
                        refine (HNU.out w10).mono ?_
                        rintro e w11 ⟨rfl, rfl⟩
                        go_wp2_with fail
                        refine (HKD.out _).mono ?_
                        rintro e w11 ⟨rfl, rfl⟩
                        go_wp2_with fail
                        go_roundw
                        case rel => exact ⟨j + 1, by go_num, by omega, H10⟩
                        case measure => simp [intOf]; omega
                      · obtain rfl : j = k := by omega
                        clear hjt
                        obtain ⟨_, _, _, _, _, _, hbw⟩ := HP.out
                        have HBW := Lib.hid hbw
                        clear hbw
                        go_wp2_with fail
                        refine (HWK.out _).mono ?_
                        rintro e w12 ⟨rfl, hb12⟩
                        go_wp2_with fail
                        go_ret
                        exact ⟨rfl, bnext HBW.out hb12⟩
  · by_cases hm1 : m ≤ 500
    · have hm2 : ¬ (500 : Int) < (m : Int) := by omega
      have hm3 : (500 : Int) < (m' : Int) := by omega
      clear hm
      go_wp2_with fail
      refine (HWK.out w1).mono ?_
      rintro e w2 ⟨rfl, hb2⟩
      go_wp2_with fail
      go_ret
      exact ⟨rfl, bnext HB1.out hb2⟩
    · have hm2 : (500 : Int) < (m : Int) := by omega
      clear hm
      go_wp2_with fail
      refine (HWK.out w1).mono ?_
      rintro e w2 ⟨rfl, hb2⟩
      go_wp2_with fail
      go_ret
      exact ⟨rfl, bnext HB1.out hb2⟩
end Go.Proofs.YtedgchafligndaaGreat
