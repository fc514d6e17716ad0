/- The walk of the law SlackRuns: it answers true whatever is done, in every order; no condition. -/
import Derived.Test.YtedgchafligndaaJKJPlay
import Derived.Test.YtedgchafligndaaJB11
import Derived.Test.YtedgchafligndaaJB13
import Derived.Test.YtedgchafligndaaJKJOpens
import Derived.Deep.CutBlock
namespace Go.Proofs.Ytedgchafligndaa
open Go.RowKit Tsk

theorem Opsz.at {w W : World} {q : Option Addr} {m cap : Nat} {O : Nat → Oz} (h : Opsz w (.slice q m cap) m O) (hb : Below w.heap.size w W) {i : Nat} (hi : i < m) : ∃ b off, q = some ⟨b, off, none⟩ ∧ b < w.heap.size ∧ W.cell? ⟨b, off + i * 7, none⟩ = some (.int .i64 (O i).k) ∧ W.cell? ⟨b, off + i * 7 + 1, none⟩ = some (.int .i64 (O i).n) ∧ W.cell? ⟨b, off + i * 7 + 2, none⟩ = some (.int .i64 (O i).h) ∧ W.cell? ⟨b, off + i * 7 + 3, none⟩ = some (.int .i64 (O i).j.l) ∧ W.cell? ⟨b, off + i * 7 + 4, none⟩ = some (.int .i64 (O i).j.c) ∧ W.cell? ⟨b, off + i * 7 + 5, none⟩ = some (.int .i64 (O i).j.a) ∧ W.cell? ⟨b, off + i * 7 + 6, none⟩ = some (.int .i64 (O i).j.d) := by
  obtain ⟨_, _, e, _, hc⟩ := h
  simp only [Value.slice.injEq] at e
  obtain ⟨b, off, e2, c0, c1, c2, c3, c4, c5, c6⟩ := hc i hi
  have hl : b < w.heap.size := cell_lt c0
  have k := fun (o : Nat) => hb.cell (p := ⟨b, o, none⟩) hl
  exact ⟨b, off, by rw [e.1]; exact e2, hl, (k _).trans c0, (k _).trans c1, (k _).trans c2, (k _).trans c3, (k _).trans c4, (k _).trans c5, (k _).trans c6⟩
/-- What the law's loop carries. -/
def RunsW (w : World) (S : Nat → Prop) (R : Nat) (v : Value) (k : Nat) (wr : World) : Prop := ∃ X A T la gs ts ks wv L now, PlayR S X w.heap.size R wr A T la v gs ts ks wv L now ∧ L.length ≤ k ∧ Below w.heap.size w wr
set_option maxHeartbeats 8000000 in
set_option maxRecDepth 100000 in
theorem runs_any (v : Value) (m : Nat) (O : Nat → Oz) (w : World) (h : Opsz w v m O) : Calls Try.prog 3 #[v] w fun e w' => e = .returned (.bool true) ∧ Below w.heap.size w w' := by
  have HOP := Lib.hid h
  obtain ⟨q, cap, rfl, hm63, _⟩ := h
  have HN := Lib.hid (plnew w)
  have HWK := Lib.hid (fun W => works_any W)
  go_enter Try.func3, Try.ntmps3
  go_wp2_with fail
  refine HN.out.mono ?_
  rintro e w1 ⟨S, v1, rfl, hL, hb1⟩
  have HLF := Lib.hid hL
  have HB1 := Lib.hid hb1
  obtain ⟨bl, rfl, _⟩ := (hL S).ptr
  have HSL := Lib.hid (hL S).lt
  have HRN := Lib.hid (rnew14 w1)
  unfold NewR14 at HRN
  clear hL hb1
  by_cases hm : m ≤ 2000
  · have hm2 : ¬ (2000 : Int) < (m : Int) := by omega
    go_wp2_with fail
    refine HRN.out.mono ?_
    rintro e w2 ⟨gs, ts, ks, rfl, ho2, hb2⟩
    have HD2 := Lib.hid (ho2.dp (A := Tab.new 3 16) (X := S) (by simp [Tab.new]) (by simp [Tab.new]) (fun x hx => (HSL.out x hx).2))
    obtain ⟨p1, cp1, p2, cp2, p3, cp3, _, rfl, rfl, rfl, _⟩ := HD2.out.shape PI.new.good
    have HB2 := Lib.hid hb2
    clear ho2 hb2
    go_upto_block 0 with fail
    obtain ⟨w3, hw3⟩ : ∃ w3, w3 = w2.alloc (.cells #[.slice p1 16 cp1, .slice p2 16 cp2, .slice p3 16 cp3, .int .i64 (-1), N0, .int .i64 0] RT14) := ⟨_, rfl⟩
    rw [← hw3]
    have HPL := Lib.hid (show RunsW w S w2.heap.size (.pointer (some ⟨bl, 0, none⟩)) 0 w3 from by
      have hb : Below w2.heap.size w2 w3 := by rw [hw3]; exact (Below.refl _ _).alloc (Nat.le_refl _) _
      have hs : w3.heap.size = w2.heap.size + 1 := by rw [hw3]; simp
      have h2 := HB2.out.size
      have hsw := fun x (hx : S x) => HSL.out x hx
      refine ⟨fun x => S x ∨ x = w2.heap.size, Tab.new 3 16, fun _ => tk0, -1, _, _, _, N0, [], 0, ⟨⟨PI.new, ((HLF.out _).below HB2.out).below hb, (HD2.out.mono (fun x hx q => by rcases q with q | q; exact q; omega)).below hb, World.ownsRow_nil _ _ _ _, fun x q => .inl q, fun g e => (by cases e), fun g e => (by cases e), fun x q => ?_⟩, by rw [hw3]; exact hasR_new _ _ _ _ _ _ _, .inr rfl, fun q => by have := (hsw _ q).2; omega, fun g e => (by cases e)⟩, Nat.le_refl _, bnext (bnext HB1.out HB2.out) hb⟩
      rcases q with q | q
      · have := (hsw x q).2; omega
      · omega)
    have HRW := Lib.hid (show w.heap.size ≤ w2.heap.size from (bnext HB1.out HB2.out).size)
    clear hw3
    generalize w2.heap.size = R at *
    clear HD2 HB2 HB1 HLF HRN HN
    go_wp2_with fail
    go_loopw [5] (fun iv wr => ∃ k : Nat, iv = .int .i64 k ∧ k ≤ m ∧ Hid (RunsW w S R (.pointer (some ⟨bl, 0, none⟩)) k wr)) (fun iv _ => m - (intOf iv).toNat)
    case atStart => exact ⟨0, rfl, Nat.zero_le _, HPL⟩
    case round =>
      clear HPL
      obtain ⟨k, rfl, hkm, HP⟩ := hrel
      obtain ⟨X, A, T, la, gs, ts, ks, wv, L, now, hp, hLk, hbw⟩ := HP.out
      obtain ⟨p1, cp1, p2, cp2, p3, cp3, _, rfl, rfl, rfl, _⟩ := hp.ro.dp.shape hp.ro.pi.good
      obtain ⟨pw, cw, rfl⟩ := own_slice hp.ro.row
      have HPZ := Lib.hid hp
      have HBW := Lib.hid hbw
      have z0 : (0 : Int) ≤ (k : Int) := by omega
      clear hp hbw HP
      obtain ⟨a0, a1, a2, a3, a4, a5⟩ := HPZ.out.hr.cells
      by_cases hlt : k < m
      · have z1 : (k : Int) < (m : Int) := by omega
        obtain ⟨b, off, rfl, hbl, e0, e1, e2, e3, e4, e5, e6⟩ := HOP.out.at HBW.out hlt
        obtain ⟨o, ho⟩ : ∃ o, o = O k := ⟨_, rfl⟩
        rw [← ho] at e0 e1 e2 e3 e4 e5 e6
        clear ho
        obtain ⟨ok, on, oh, ⟨ol, oc, oa, od⟩⟩ := o
        dsimp only at e0 e1 e2 e3 e4 e5 e6
        have HST1 := Lib.hid (do_any _ _ _ _ _ _ now ok on oh ol oc oa od _ _ _ _ _ _ _ (HPZ.out.ro.below below_drewOne) (by omega))
        have HST2 := Lib.hid (do_any _ _ _ _ _ _ now ok on oh ol oc oa od _ _ _ _ _ _ _ (HPZ.out.in2 (W := (wr.alloc (.cells #[N0, N0, N0, .int .i64 0, N0, .int .i64 0] RT14)).drew) ((Below.refl _ _).alloc (Nat.le_refl _) _).drew (by simp [World.drew])) (by omega))
        unfold DoPost at HST1 HST2
        have hlb : b < wr.heap.size := Nat.lt_of_lt_of_le hbl HBW.out.size
        have hlr : R < wr.heap.size := has_lt HPZ.out.hr
        go_upto_region 8 with fail
        have HXZ := Lib.hid (show ∀ W, Keeps (fun x => S x ∨ (Value.slice pw L.length cw).ownBlock = some x) (wr.alloc (.cells #[N0, N0, N0, .int .i64 0, N0, .int .i64 0] RT14)).drew W → HasR W wr.heap.size N0 N0 N0 0 N0 0 from fun W hk => has_keeps (has_drew (hasR_new wr N0 N0 N0 0 N0 0)) hk (by
          rintro (q | q)
          · have := (HPZ.out.ro.pl.lt _ q).2; omega
          · have := HPZ.out.ro.xw _ (HPZ.out.ro.rx _ q); omega))
        go_cut [6, 7] (fun xv kv wx => ∃ X' A' T' la' gs' ts' ks' wv' L' now' bx, xv = .pointer (some ⟨bx, 0, none⟩) ∧ kv = .bool true ∧ Hid (CutR S X' w.heap.size R wr (.pointer (some ⟨bl, 0, none⟩)) (.slice pw L.length cw) L.length A' T' la' gs' ts' ks' wv' L' now' bx wx))
        case first =>
          go_region_law (first
            | (go_simp; go_at_call 9; refine HST1.out.mono ?_; rintro e w4 ⟨X', A', T', la', gs', ts', ks', wv', L', now', rfl, hr4, hl4, hx4, hw4, hk4⟩; obtain ⟨q1, cq1, q2, cq2, q3, cq3, _, rfl, rfl, rfl, _⟩ := hr4.dp.shape hr4.pi.good; obtain ⟨qw, dw, rfl⟩ := own_slice hr4.row; have HR4 := Lib.hid hr4; have HL4 := Lib.hid hl4; have HX4 := Lib.hid hx4; have HW4 := Lib.hid hw4; have HK4 := Lib.hid hk4; clear hr4 hl4 hx4 hw4 hk4)
            | (go_simp; go_at_call 9; refine HST2.out.mono ?_; rintro e w4 ⟨X', A', T', la', gs', ts', ks', wv', L', now', rfl, hr4, hl4, hx4, hw4, hk4⟩; obtain ⟨q1, cq1, q2, cq2, q3, cq3, _, rfl, rfl, rfl, _⟩ := hr4.dp.shape hr4.pi.good; obtain ⟨qw, dw, rfl⟩ := own_slice hr4.row; have HR4 := Lib.hid hr4; have HL4 := Lib.hid hl4; have HX4 := Lib.hid hx4; have HW4 := Lib.hid hw4; have HK4 := Lib.hid hk4; have HZ4 := Lib.hid (HXZ.out _ hk4); obtain ⟨x0, x1, x2, x3, x4, x5⟩ := HZ4.out.cells; have fx := fun j => has_free HZ4.out j; clear hr4 hl4 hx4 hw4 hk4))
          all_goals
            go_wp2_with fail
            go_meet
            refine ⟨X', A', T', la', .slice q1 16 cq1, .slice q2 16 cq2, .slice q3 16 cq3, .slice qw L'.length dw, L', now', _, rfl, rfl, Lib.hid ?_⟩
            first
              | (with_reducible exact HPZ.out.cutA HR4.out HL4.out HX4.out HW4.out HK4.out)
              | (with_reducible exact HPZ.out.cutB HR4.out HL4.out HX4.out HW4.out HK4.out)
        case rest =>
          obtain ⟨X', A', T', la', gs', ts', ks', wv', L', now', bx, rfl, rfl, HC⟩ := hcut
          obtain ⟨q1, cq1, q2, cq2, q3, cq3, _, rfl, rfl, rfl, _⟩ := HC.out.ro.dp.shape HC.out.ro.pi.good
          obtain ⟨qw, dw, rfl⟩ := own_slice HC.out.ro.row
          clear a0 a1 a2 a3 a4 a5 e0 e1 e2 e3 e4 e5 e6 HST1 HST2 HXZ hlb hlr
          obtain ⟨x0, x1, x2, x3, x4, x5⟩ := HC.out.hx.cells
          obtain ⟨_, _, _, _, _, _, hr⟩ := HC.out.hr
          obtain ⟨y0, y1, y2, y3, y4, y5⟩ := hr.cells
          have fr := fun j => has_free hr j
          have hne : ¬ R = bx := by have := HC.out.ne; omega
          have hne2 : ¬ bx = R := by have := HC.out.ne; omega
          have hT := HC.out.turn
          have hBN : Below w.heap.size w _ := below_keeps HBW.out hT.2 (fun x q => by
            rcases q with (q | q) | q
            · exact (HSL.out x q).1
            · exact (World.ownsRow.lt HPZ.out.ro.row x q).1
            · have := HRW.out; omega)
          have HLN := Lib.hid (show L'.length ≤ k + 1 from by have := HC.out.len; omega)
          clear hr
          go_upto_region 10 with fail
          obtain ⟨W6, hW6⟩ : ∃ W6, W6 = st6 wc R (.slice q1 16 cq1) (.slice q2 16 cq2) (.slice q3 16 cq3) (.int .i64 la') (.slice qw L'.length dw) (.int .i64 now') := ⟨_, rfl⟩
          rw [← hW6] at hT hBN
          unfold st6 at hW6
          rw [← hW6]
          have HT := Lib.hid hT.1
          have HBN := Lib.hid hBN
          have HSV := Lib.hid (saved_yes _ _ _ _ _ _ _ HT.out.ro.pi.good _ _ _ _ _ HT.out.ro.pl HT.out.ro.dp)
          clear hW6 hT hBN x0 x1 x2 x3 x4 x5 y0 y1 y2 y3 y4 y5 fr hne hne2
          obtain ⟨a0, a1, a2, a3, a4, a5⟩ := HT.out.hr.cells
          go_wp2_with fail
          refine HSV.out.mono ?_
          rintro e w7 ⟨rfl, hb7⟩
          have HT7 := Lib.hid (HT.out.below hb7)
          have HB7 := Lib.hid (bnext HBN.out hb7)
          clear hb7
          go_wp2_with fail
          go_roundw
          case rel => exact ⟨k + 1, by go_num, by omega, Lib.hid ⟨X', A', T', la', _, _, _, _, L', now', HT7.out, HLN.out, HB7.out⟩⟩
          case measure => simp [intOf]; omega
      · obtain rfl : k = m := by omega
        clear hlt
        go_wp2_with fail
        refine (HWK.out wr).mono ?_
        rintro e w5 ⟨rfl, hb5⟩
        go_wp2_with fail
        go_ret
        exact ⟨rfl, bnext HBW.out hb5⟩
  · have hm2 : (2000 : Int) < (m : Int) := by omega
    go_wp2_with fail
    refine (HWK.out w1).mono ?_
    rintro e w2 ⟨rfl, hb2⟩
    go_wp2_with fail
    go_ret
    exact ⟨rfl, bnext HB1.out hb2⟩
end Go.Proofs.Ytedgchafligndaa
