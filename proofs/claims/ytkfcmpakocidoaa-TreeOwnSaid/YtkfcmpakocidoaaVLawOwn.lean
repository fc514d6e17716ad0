/- The walk of TreeOwn: whatever the row of acts, it answers true; no condition. -/
import Derived.Test.YtkfcmpakocidoaaVLawA
import Derived.Test.YtkfcmpakocidoaaVOpens
import Derived.Deep.CutBlock
import Derived.Deep.CutRange
import Derived.Deep.DeepCutAuto
import Derived.Deep.RegionHeld3
namespace Go.Proofs.Ytkfcmpakocidoaa
open Go.RowKit Tr

set_option maxHeartbeats 4000000 in
set_option maxRecDepth 100000 in
theorem own_any (v : Value) (l : List (Int × Int × Int)) (w : World) (hv : OpsAt w v l) : Calls Try.prog 4 #[v] w fun e w' => e = .returned (.bool true) ∧ Below w.heap.size w w' := by
  have HN := Lib.hid (fun w => newT_any w)
  have HV := Lib.hid (fun w1 (hb : Below w.heap.size w w1) => hv.below hb)
  obtain ⟨pl, cl, rfl, hm, _⟩ := hv
  go_enter Try.func4, Try.ntmps4
  go_wp2_with fail
  refine (HN.out _).mono ?_
  rintro e w1 ⟨T, bt, b, rfl, ht, hb⟩
  have HT := Lib.hid (show TR T w.heap.size w1 A0 bt b from ht)
  have HB := Lib.hid hb
  have HTL := Lib.hid ht.p.lt
  clear ht hb
  go_upto_block 0 with fail
  go_cut [] (fun wx => ∃ A X, Hid (Rel A X) ∧ Hid (TR T w.heap.size wx A bt b) ∧ Hid (Below w.heap.size w wx))
  case first =>
    have HALL := Lib.hid (fun A X hR W h => all_any (T := T) (B := w.heap.size) (A := A) (X := X) (bt := bt) (b := b) hR W h)
    have HADD := Lib.hid (fun A X hR W h p hp => add_some (T := T) (B := w.heap.size) (A := A) (X := X) (bt := bt) (b := b) hR W h p hp)
    go_wp2_with fail
    go_loopw [4] (fun iv wr => ∃ (k : Nat) (A : Tab) (X : Sh), k ≤ l.length ∧ iv = .int .i64 k ∧ Hid (Rel A X) ∧ Hid (TR T w.heap.size wr A bt b) ∧ Hid (Below w.heap.size w wr)) (fun iv _ => l.length - (intOf iv).toNat)
    case atStart => exact ⟨0, A0, X0, Nat.zero_le _, rfl, Lib.hid rel0, HT, HB⟩
    case round =>
      clear HT HB
      obtain ⟨k, A, X, hk, rfl, HR, HT, HB⟩ := hrel
      by_cases hlt : k < l.length ∧ k < 60
      · have hlt1 := hlt.1
        have hlt2 : (k : Int) < 60 := by omega
        have hlt3 : (k : Int) < (l.length : Int) := by omega
        have k0 : (0 : Int) ≤ (k : Int) := by omega
        have HC := Lib.hid (HALL.out A X HR.out wr HT.out)
        obtain ⟨L, hL⟩ : ∃ L, L = X.pt 0 := ⟨_, rfl⟩
        rw [← hL] at HC
        have hn0 : 0 < L.length := by rw [hL, pt_eq HR.out.tree HR.out.tree.t0]; simp
        have hn64 : L.length ≤ 64 := by rw [hL]; exact pt_len HR.out.tree HR.out.tree.t0
        have HLT := Lib.hid (show ∀ x ∈ L, X.t x = true from fun x hx => (pt_all HR.out.tree).1 (hL ▸ hx))
        clear hL hlt
        go_wp2_with fail
        refine HC.out.mono ?_
        rintro e w2 ⟨v2, rfl, ho, hb2⟩
        have HO := Lib.hid ho
        obtain ⟨p2, c2, hv2⟩ := ho.shape
        rw [List.length_map] at hv2
        subst hv2
        have HB2 := Lib.hid (bnext HB.out hb2)
        have HT2 := Lib.hid (HT.out.below hb2)
        have hz : ((L.length : Int) == 0) = false := by rw [beq_eq_false_iff_ne]; omega
        obtain ⟨_, _, hsl, _, hcs⟩ := HV.out w2 HB2.out
        injection hsl with hs1 hs2 hs3
        subst hs1 hs3
        obtain ⟨q, hq⟩ : ∃ q, q = l[k] := ⟨_, rfl⟩
        obtain ⟨g, off, rfl, c0, c1, c3⟩ := hcs k q.1 q.2.1 q.2.2 (by rw [hq]; simp [hlt1])
        clear hcs hs2 ho hb2 c0 c3
        generalize q.2.1 = y at *
        clear hq
        obtain ⟨m, hm, hidx⟩ := idx_ok y L.length hn0 hn64
        obtain ⟨g2, cc2, cur2, hv3, _, _⟩ := own_block HO.out (by rw [List.length_map]; exact hn0)
        injection hv3 with e1 e2 e3
        subst e1
        clear e2 e3
        have c2 := HO.out.cell m hm
        have HC2 := Lib.hid (HADD.out A X HR.out w2 HT2.out L[m] (HLT.out _ (List.getElem_mem hm)))
        generalize A.hd L[m] = z at *
        have m0 : (0 : Int) ≤ (m : Int) := by omega
        have m1 : (m : Int) < (L.length : Int) := by omega
        go_wp2_with fail
        refine HC2.out.mono ?_
        rintro e w3 ⟨A', X', r, c, rfl, hR3, ht3, hk3⟩
        have HR3 := Lib.hid hR3
        have HT3 := Lib.hid ht3
        have HB3 := Lib.hid (HB2.out.trans (hk3.below HB2.out.size (fun x hx => (HTL.out x hx).1)))
        clear hR3 ht3 hk3
        go_wp2_with fail
        go_roundw
        case rel => exact ⟨k + 1, A', X', by omega, by go_num, HR3, HT3, HB3⟩
        case measure => simp [intOf]; omega
      · clear HADD
        by_cases h1 : k < l.length
        · have h2 : (60 : Int) ≤ (k : Int) := by omega
          clear hlt
          go_wp2_with fail
          go_meet
          exact ⟨A, X, HR, HT, HB⟩
        · clear hlt
          go_wp2_with fail
          go_meet
          exact ⟨A, X, HR, HT, HB⟩
  case rest =>
    obtain ⟨A, X, HR, HT2, HB2⟩ := hcut
    have HALL := Lib.hid (fun W h => all_any (T := T) (B := w.heap.size) (A := A) (X := X) (bt := bt) (b := b) HR.out W h)
    have HK := Lib.hid (fun W h => kids_yes (T := T) (B := w.heap.size) (A := A) (X := X) (bt := bt) (b := b) HR.out W h 0 HR.out.tree.t0)
    have HP := Lib.hid (fun W h => path_yes (T := T) (B := w.heap.size) (A := A) (X := X) (bt := bt) (b := b) HR.out W h 0 HR.out.tree.t0)
    have HRT := Lib.hid (fun bt w => root_any bt w)
    have HSURE := Lib.hid (fun w => sure_any w)
    rw [path_0 HR.out.tree, List.map_cons, List.map_nil] at HP
    rw [HR.out.root] at HK HP
    have hlL : ((X.pt 0).map A.hd).length ≤ 64 := by rw [List.length_map]; exact pt_len HR.out.tree HR.out.tree.t0
    have hlK : ((X.kids 0).map A.hd).length ≤ 64 := by
      rw [List.length_map]
      exact few (kids_nodup X 0) (n := 64) (fun x hx => HR.out.tree.lt x ((mem_kids HR.out.tree).1 hx).1)
    generalize (X.pt 0).map A.hd = L at *
    generalize (X.kids 0).map A.hd = K at *
    clear HN HV HT HB
    have HW := Lib.hid HB2.out.size
    go_wp2_with fail
    refine (HALL.out _ HT2.out).mono ?_
    rintro e wa ⟨va, rfl, ho, hb⟩
    have HRA := Lib.hid ho.rowIn
    obtain ⟨pa, ca, rfl⟩ := ho.shape
    have HTa := Lib.hid (HT2.out.below hb)
    have HBa := Lib.hid hb
    clear ho hb
    go_wp2_with fail
    refine (HALL.out _ HTa.out).mono ?_
    rintro e wb ⟨vb, rfl, ho, hb⟩
    have HRB := Lib.hid ho.rowIn
    obtain ⟨pb, cb, rfl⟩ := ho.shape
    have HRA2 := Lib.hid (HRA.out.below hb)
    have HTb := Lib.hid (HTa.out.below hb)
    have HBb := Lib.hid hb
    clear ho hb HTa HRA
    go_wp2_with fail
    refine (HRT.out _ _).mono ?_
    rintro e w0 ⟨rfl, rfl⟩
    go_wp2_with fail
    refine (HK.out _ HTb.out).mono ?_
    rintro e wk ⟨vk, rfl, ho, hb⟩
    have HRK := Lib.hid ho.rowIn
    obtain ⟨pk, ck, rfl⟩ := ho.shape
    have HRA3 := Lib.hid (HRA2.out.below hb)
    have HRB3 := Lib.hid (HRB.out.below hb)
    have HTk := Lib.hid (HTb.out.below hb)
    have HBk := Lib.hid hb
    clear ho hb HTb HRA2 HRB
    go_wp2_with fail
    refine (HRT.out _ _).mono ?_
    rintro e w0 ⟨rfl, rfl⟩
    go_wp2_with fail
    refine (HP.out _ HTk.out).mono ?_
    rintro e wp ⟨vp, rfl, ho, hb⟩
    have HRP := Lib.hid ho.rowIn
    obtain ⟨pp, cp, hv⟩ := ho.shape
    rw [show [(1099511627777 : Int)].length = 1 from rfl] at hv
    subst hv
    have HRA4 := Lib.hid (HRA3.out.below hb)
    have HRB4 := Lib.hid (HRB3.out.below hb)
    have HRK4 := Lib.hid (HRK.out.below hb)
    have HTp := Lib.hid (HTk.out.below hb)
    have HBp := Lib.hid hb
    clear ho hb HTk HRA3 HRB3 HRK
    go_wp2_with fail
    refine (HRT.out _ _).mono ?_
    rintro e w0 ⟨rfl, rfl⟩
    go_wp2_with fail
    refine (HK.out _ HTp.out).mono ?_
    rintro e wm ⟨vm, rfl, ho, hb⟩
    have HRM := Lib.hid ho.rowIn
    obtain ⟨pm, cm, rfl⟩ := ho.shape
    have HRA5 := Lib.hid (HRA4.out.below hb)
    have HRB5 := Lib.hid (HRB4.out.below hb)
    have HRK5 := Lib.hid (HRK4.out.below hb)
    have HRP5 := Lib.hid (HRP.out.below hb)
    have HTm := Lib.hid (HTp.out.below hb)
    have HBm := Lib.hid hb
    clear ho hb HTp HRA4 HRB4 HRK4 HRP
    go_wp2_with fail
    have HAA := Lib.hid (show AnyRow wc.heap.size wa.heap.size wm (.slice pa L.length ca) L.length from ⟨L, rfl, HRA5.out⟩)
    go_loopw [14] (fun iv wr => ∃ k : Nat, k ≤ L.length ∧ iv = .int .i64 k ∧ Hid (AnyRow wc.heap.size wa.heap.size wr (.slice pa L.length ca) L.length) ∧ Hid (Keeps (fun x => wc.heap.size ≤ x ∧ x < wa.heap.size) wm wr)) (fun iv _ => L.length - (intOf iv).toNat)
    case atStart => exact ⟨0, Nat.zero_le _, rfl, HAA, Lib.hid (Keeps.refl _ _)⟩
    case round =>
      obtain ⟨k, hk, rfl, HA, HK1⟩ := hrel
      by_cases hlt : k < L.length
      · obtain ⟨g, z, hpg, hz, hfz, hlh, hset⟩ := HA.out.at k hlt
        subst hpg
        have hlt3 : (k : Int) < (L.length : Int) := by omega
        have k0 : (0 : Int) ≤ (k : Int) := by omega
        have HS := Lib.hid (hset 99)
        have HKS := Lib.hid (HK1.out.setCell ⟨g, k, none⟩ (.int .i64 99) hlh)
        clear hlh hset
        go_wp2_with fail
        go_roundw
        case rel => exact ⟨k + 1, by omega, by go_num, HS, HKS⟩
        case measure => simp [intOf]; omega
      · have hge : (L.length : Int) ≤ (k : Int) := by omega
        obtain ⟨w1, hw1⟩ : ∃ w1, w1 = wr := ⟨_, rfl⟩
        rw [← hw1] at HK1 HA ⊢
        have sz1 := HBa.out.size
        have sz2 := HBb.out.size
        have sz3 := HBk.out.size
        have sz4 := HBp.out.size
        have sz5 := HBm.out.size
        have szw := HB2.out.size
        have HRB6 := Lib.hid (HRB5.out.keeps HK1.out (fun x hx => by omega))
        have HRK6 := Lib.hid (HRK5.out.keeps HK1.out (fun x hx => by omega))
        have HRP6 := Lib.hid (HRP5.out.keeps HK1.out (fun x hx => by omega))
        have HRM6 := Lib.hid (HRM.out.keeps HK1.out (fun x hx => by omega))
        have HTL6 := Lib.hid (show ∀ x, T x → x < wc.heap.size from fun x hx => (HT2.out.p.lt x hx).2)
        have HBT6 := Lib.hid HT2.out.lt
        have HT6 := Lib.hid (HTm.out.keeps HK1.out (fun x hx k => by have := HTL6.out x hx; omega) (fun k => by have := HBT6.out; omega))
        have HB6 := Lib.hid (show Below w.heap.size w w1 from (bnext (bnext (bnext (bnext (bnext HB2.out HBa.out) HBb.out) HBk.out) HBp.out) HBm.out).trans (HK1.out.below (by omega) (fun x hx => by omega)))
        clear HRB5 HRK5 HRP5 HRM HTm HA HAA HRA5 HK1 hw1 hk hlt
        go_wp2_with fail
        have HAK := Lib.hid (show AnyRow wb.heap.size wk.heap.size w1 (.slice pk K.length ck) K.length from ⟨K, rfl, HRK6.out⟩)
        go_loopw [15] (fun iv wr => ∃ k : Nat, k ≤ K.length ∧ iv = .int .i64 k ∧ Hid (AnyRow wb.heap.size wk.heap.size wr (.slice pk K.length ck) K.length) ∧ Hid (Keeps (fun x => wb.heap.size ≤ x ∧ x < wk.heap.size) w1 wr)) (fun iv _ => K.length - (intOf iv).toNat)
        case atStart => exact ⟨0, Nat.zero_le _, rfl, HAK, Lib.hid (Keeps.refl _ _)⟩
        case round =>
          obtain ⟨k, hk, rfl, HA, HK1⟩ := hrel
          by_cases hlt : k < K.length
          · obtain ⟨g, z, hpg, hz, hfz, hlh, hset⟩ := HA.out.at k hlt
            subst hpg
            have hlt3 : (k : Int) < (K.length : Int) := by omega
            have k0 : (0 : Int) ≤ (k : Int) := by omega
            have HS := Lib.hid (hset 99)
            have HKS := Lib.hid (HK1.out.setCell ⟨g, k, none⟩ (.int .i64 99) hlh)
            clear hlh hset
            go_wp2_with fail
            go_roundw
            case rel => exact ⟨k + 1, by omega, by go_num, HS, HKS⟩
            case measure => simp [intOf]; omega
          · have hge : (K.length : Int) ≤ (k : Int) := by omega
            obtain ⟨w2, hw2⟩ : ∃ w2, w2 = wr := ⟨_, rfl⟩
            rw [← hw2] at HK1 HA ⊢
            have HRB7 := Lib.hid (HRB6.out.keeps HK1.out (fun x hx => by omega))
            have HRP7 := Lib.hid (HRP6.out.keeps HK1.out (fun x hx => by omega))
            have HRM7 := Lib.hid (HRM6.out.keeps HK1.out (fun x hx => by omega))
            have HT7 := Lib.hid (HT6.out.keeps HK1.out (fun x hx k => by have := HTL6.out x hx; omega) (fun k => by have := HBT6.out; omega))
            have HB7 := Lib.hid (show Below w.heap.size w w2 from HB6.out.trans (HK1.out.below (by have := HB6.out.size; omega) (fun x hx => by omega)))
            clear HRB6 HRK6 HRP6 HRM6 HT6 HB6 HA HAK HK1 hw2 hk hlt
            go_wp2_with fail
            have HAP := Lib.hid (show AnyRow wk.heap.size wp.heap.size w2 (.slice pp 1 cp) 1 from ⟨[1099511627777], rfl, HRP7.out⟩)
            go_loopw [16] (fun iv wr => ∃ k : Nat, k ≤ 1 ∧ iv = .int .i64 k ∧ Hid (AnyRow wk.heap.size wp.heap.size wr (.slice pp 1 cp) 1) ∧ Hid (Keeps (fun x => wk.heap.size ≤ x ∧ x < wp.heap.size) w2 wr)) (fun iv _ => 1 - (intOf iv).toNat)
            case atStart => exact ⟨0, Nat.zero_le _, rfl, HAP, Lib.hid (Keeps.refl _ _)⟩
            case round =>
              obtain ⟨k, hk, rfl, HA, HK1⟩ := hrel
              by_cases hlt : k < 1
              · obtain ⟨g, z, hpg, hz, hfz, hlh, hset⟩ := HA.out.at k hlt
                subst hpg
                have hlt3 : (k : Int) < (1 : Int) := by omega
                have k0 : (0 : Int) ≤ (k : Int) := by omega
                have HS := Lib.hid (hset 99)
                have HKS := Lib.hid (HK1.out.setCell ⟨g, k, none⟩ (.int .i64 99) hlh)
                clear hlh hset
                go_wp2_with fail
                go_roundw
                case rel => exact ⟨k + 1, by omega, by go_num, HS, HKS⟩
                case measure => simp [intOf]; omega
              · have hge : (1 : Int) ≤ (k : Int) := by omega
                obtain ⟨w3, hw3⟩ : ∃ w3, w3 = wr := ⟨_, rfl⟩
                rw [← hw3] at HK1 HA ⊢
                have HRB8 := Lib.hid (HRB7.out.keeps HK1.out (fun x hx => by omega))
                have HRM8 := Lib.hid (HRM7.out.keeps HK1.out (fun x hx => by omega))
                have HT8 := Lib.hid (HT7.out.keeps HK1.out (fun x hx k => by have := HTL6.out x hx; omega) (fun k => by have := HBT6.out; omega))
                have HB8 := Lib.hid (show Below w.heap.size w w3 from HB7.out.trans (HK1.out.below (by have := HB7.out.size; omega) (fun x hx => by omega)))
                clear HRB7 HRP7 HRM7 HT7 HB7 HA HAP HK1 hw3 hk hlt
                go_wp2_with fail
                refine (HRT.out _ _).mono ?_
                rintro e w0 ⟨rfl, rfl⟩
                go_wp2_with fail
                refine (HK.out _ HT8.out).mono ?_
                rintro e wn ⟨vn, rfl, ho, hb⟩
                have HRN := Lib.hid ho
                obtain ⟨pn, cn, rfl⟩ := ho.shape
                have HRB9 := Lib.hid (HRB8.out.below hb)
                have HRM9 := Lib.hid (HRM8.out.below hb)
                have HT9 := Lib.hid (HT8.out.below hb)
                have HB9 := Lib.hid (bnext HB8.out hb)
                clear ho hb HT8 HB8 HRB8 HRM8
                go_wp2_with fail
                refine (HRT.out _ _).mono ?_
                rintro e w0 ⟨rfl, rfl⟩
                go_wp2_with fail
                refine (HP.out _ HT9.out).mono ?_
                rintro e wq ⟨vq, rfl, ho, hb⟩
                have HRQ := Lib.hid ho
                obtain ⟨pq, cq, hv⟩ := ho.shape
                rw [show [(1099511627777 : Int)].length = 1 from rfl] at hv
                subst hv
                have HRN10 := Lib.hid (HRN.out.below hb)
                have HRB10 := Lib.hid (HRB9.out.below hb)
                have HRM10 := Lib.hid (HRM9.out.below hb)
                have HT10 := Lib.hid (HT9.out.below hb)
                have HB10 := Lib.hid (bnext HB9.out hb)
                clear ho hb HT9 HB9 HRB9 HRM9 HRN
                go_wp2_with fail
                obtain ⟨gq, cq2, curq, hvq, h1, h2⟩ := own_block HRQ.out (by simp)
                injection hvq with e1 e2 e3
                subst e1
                clear e2 e3 h1 h2
                have hcq := World.ownsRow.cells (g := gq) HRQ.out rfl 0 (.int .i64 1099511627777) rfl
                rw [addr_add, Nat.zero_add] at hcq
                have HKEEP := Lib.hid (show ∀ W, Below wq.heap.size wq W → (W.cell? ⟨gq, 0, none⟩ = some (.int .i64 1099511627777) ∧ Below wq.heap.size wq W) from fun W h => ⟨(h.cell (p := ⟨gq, 0, none⟩) (cell_lt hcq)).trans hcq, h⟩)
                have HALLW := Lib.hid (fun W (h : Below wq.heap.size wq W) => HALL.out W (HT10.out.below h))
                have HBW := Lib.hid (fun W (h : Below wq.heap.size wq W) => (HRB10.out.below h).1.lst (by omega))
                have HMW := Lib.hid (fun W (h : Below wq.heap.size wq W) => (HRM10.out.below h).1.lst (by omega))
                have HNW := Lib.hid (fun W (h : Below wq.heap.size wq W) => (HRN10.out.below h).lst (by omega))
                have hlL4 : L.length ≤ 4096 := by omega
                have hlK4 : K.length ≤ 4096 := by omega
                clear HALL HK HP HT10 HRB10 HRM10 HRN10 HRQ
                go_region_held3 (fun w' => w'.cell? ⟨gq, 0, none⟩ = some (.int .i64 1099511627777) ∧ Below wq.heap.size wq w')
                  (first | exact HKEEP.out _ below_drewOne | exact HKEEP.out _ (Below.refl _ _) | (go_split_ands; refine HKEEP.out _ (bnext ?_ hb); first | assumption | exact below_drewOne))
                  (first
                    | (go_at_call 6; refine (HALLW.out _ ?_).mono ?_; (go_split_ands; assumption); rintro e wz ⟨vz, rfl, ho, hb⟩; obtain ⟨pz, cz, rfl⟩ := ho.shape; have hzl := ho.lst hlL4)
                    | (go_at_call_of 16 (Value.slice pm K.length cm); refine (same_yes _ _ _ K (HMW.out _ ?_) (HNW.out _ ?_) hlK4).mono ?_; (go_split_ands; assumption); (go_split_ands; assumption); rintro e wt ⟨rfl, hb⟩)
                    | (go_at_call 16; refine (same_yes _ _ _ L hzl (HBW.out _ ?_) hlL4).mono ?_; (go_split_ands; assumption); rintro e ws ⟨rfl, hb⟩)
                    | (go_at_call 12; refine (root_b _ _).mono ?_; rintro e w0 ⟨rfl, hb⟩)
                    | (go_at_call 14; refine (HSURE.out _).mono ?_; rintro e wv ⟨rfl, hb⟩))
                all_goals
                  go_wp2_with fail
                  go_ret
                  go_split_ands
                  exact ⟨rfl, bnext HB10.out (by assumption)⟩
end Go.Proofs.Ytkfcmpakocidoaa
