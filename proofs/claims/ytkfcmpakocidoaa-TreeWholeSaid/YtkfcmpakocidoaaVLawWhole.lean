/- The walk of TreeWhole: whatever the row of acts and the number, it answers true; no condition. -/
import Derived.Test.YtkfcmpakocidoaaVLawA
import Derived.Test.YtkfcmpakocidoaaVOpens
import Derived.Test.YtkfcmpakocidoaaVWholeA
import Derived.Deep.CutBlock
import Derived.Deep.CutRange
import Derived.Deep.DeepCutAuto
import Derived.Deep.RegionHeld3
import Derived.IntWalk
namespace Go.Proofs.Ytkfcmpakocidoaa
open Go.RowKit Tr

set_option maxHeartbeats 8000000 in
set_option maxRecDepth 100000 in
theorem whole_any (v : Value) (l : List (Int × Int × Int)) (last : Int) (w : World) (hv : OpsAt w v l) : Calls Try.prog 3 #[v, .int .i64 last] w fun e w' => e = .returned (.bool true) ∧ Below w.heap.size w w' := by
  have HN := Lib.hid (fun w => newT_any w)
  have HV := Lib.hid (fun w1 (hb : Below w.heap.size w w1) => hv.below hb)
  obtain ⟨pl, cl, rfl, hm, _⟩ := hv
  go_enter Try.func3, Try.ntmps3
  go_wp2_with fail
  refine (HN.out _).mono ?_
  rintro e w1 ⟨T, bt, b, rfl, ht, hb⟩
  have HT := Lib.hid (show TR T w.heap.size w1 A0 bt b from ht)
  have HB := Lib.hid hb
  have HTL := Lib.hid ht.p.lt
  clear ht hb
  go_upto_block 0 with fail
  go_cut [] (fun wx => ∃ A X, Hid (Rel A X) ∧ Hid (TR T w.heap.size wx A bt b) ∧ Hid (Below w.heap.size w wx))
  case first =>
    have HALL := Lib.hid (fun A X hR W h => all_any (T := T) (B := w.heap.size) (A := A) (X := X) (bt := bt) (b := b) hR W h)
    have HREM := Lib.hid (fun A X hR W h p hp => rem_some (T := T) (B := w.heap.size) (A := A) (X := X) (bt := bt) (b := b) hR W h p hp)
    have HADD := Lib.hid (fun A X hR W h p hp => add_some (T := T) (B := w.heap.size) (A := A) (X := X) (bt := bt) (b := b) hR W h p hp)
    go_wp2_with fail
    go_loopw [6] (fun iv wr => ∃ (k : Nat) (A : Tab) (X : Sh), k ≤ l.length ∧ iv = .int .i64 k ∧ Hid (Rel A X) ∧ Hid (TR T w.heap.size wr A bt b) ∧ Hid (Below w.heap.size w wr)) (fun iv _ => l.length - (intOf iv).toNat)
    case atStart => exact ⟨0, A0, X0, Nat.zero_le _, rfl, Lib.hid rel0, HT, HB⟩
    case round =>
      clear HT HB
      obtain ⟨k, A, X, hk, rfl, HR, HT, HB⟩ := hrel
      by_cases hlt : k < l.length ∧ k < 200
      · have hlt1 := hlt.1
        have hlt2 : (k : Int) < 200 := by omega
        have hlt3 : (k : Int) < (l.length : Int) := by omega
        have k0 : (0 : Int) ≤ (k : Int) := by omega
        have HC := Lib.hid (HALL.out A X HR.out wr HT.out)
        obtain ⟨L, hL⟩ : ∃ L, L = X.pt 0 := ⟨_, rfl⟩
        rw [← hL] at HC
        have hn0 : 0 < L.length := by rw [hL, pt_eq HR.out.tree HR.out.tree.t0]; simp
        have hn64 : L.length ≤ 64 := by rw [hL]; exact pt_len HR.out.tree HR.out.tree.t0
        have HLT := Lib.hid (show ∀ x ∈ L, X.t x = true from fun x hx => (pt_all HR.out.tree).1 (hL ▸ hx))
        clear hL hlt
        go_wp2_with fail
        refine HC.out.mono ?_
        rintro e w2 ⟨v2, rfl, ho, hb2⟩
        have HO := Lib.hid ho
        obtain ⟨p2, c2, hv2⟩ := ho.shape
        rw [List.length_map] at hv2
        subst hv2
        have HB2 := Lib.hid (bnext HB.out hb2)
        have HT2 := Lib.hid (HT.out.below hb2)
        have hz : ((L.length : Int) == 0) = false := by rw [beq_eq_false_iff_ne]; omega
        obtain ⟨_, _, hsl, _, hcs⟩ := HV.out w2 HB2.out
        injection hsl with hs1 hs2 hs3
        subst hs1 hs3
        obtain ⟨q, hq⟩ : ∃ q, q = l[k] := ⟨_, rfl⟩
        obtain ⟨g, off, rfl, c0, c1, c3⟩ := hcs k q.1 q.2.1 q.2.2 (by rw [hq]; simp [hlt1])
        clear hcs hs2 ho hb2 c3
        generalize q.2.1 = y at *
        obtain ⟨kd, hkd⟩ : ∃ kd, kd = q.1 := ⟨_, rfl⟩
        rw [← hkd] at c0
        clear hq hkd
        obtain ⟨m, hm, hidx⟩ := idx_ok y L.length hn0 hn64
        obtain ⟨g2, cc2, cur2, hv3, _, _⟩ := own_block HO.out (by rw [List.length_map]; exact hn0)
        injection hv3 with e1 e2 e3
        subst e1
        clear e2 e3
        have c2 := HO.out.cell m hm
        have HC2 := Lib.hid (HADD.out A X HR.out w2 HT2.out L[m] (HLT.out _ (List.getElem_mem hm)))
        have HC3 := Lib.hid (HREM.out A X HR.out w2 HT2.out L[m] (HLT.out _ (List.getElem_mem hm)))
        generalize A.hd L[m] = z at *
        have m0 : (0 : Int) ≤ (m : Int) := by omega
        have m1 : (m : Int) < (L.length : Int) := by omega
        by_cases hkd : kd = 1
        · subst hkd
          go_wp2_with fail
          refine HC3.out.mono ?_
          rintro e w3 ⟨A', X', r, c, rfl, hR3, ht3, hk3⟩
          have HR3 := Lib.hid hR3
          have HT3 := Lib.hid ht3
          have HB3 := Lib.hid (HB2.out.trans (hk3.below HB2.out.size (fun x hx => (HTL.out x hx).1)))
          clear hR3 ht3 hk3
          go_wp2_with fail
          go_roundw
          case rel => exact ⟨k + 1, A', X', by omega, by go_num, HR3, HT3, HB3⟩
          case measure => simp [intOf]; omega
        · have hkd2 : (kd == 1) = false := by rw [beq_eq_false_iff_ne]; exact hkd
          clear hkd
          go_wp2_with fail
          refine HC2.out.mono ?_
          rintro e w3 ⟨A', X', r, c, rfl, hR3, ht3, hk3⟩
          have HR3 := Lib.hid hR3
          have HT3 := Lib.hid ht3
          have HB3 := Lib.hid (HB2.out.trans (hk3.below HB2.out.size (fun x hx => (HTL.out x hx).1)))
          clear hR3 ht3 hk3
          go_wp2_with fail
          go_roundw
          case rel => exact ⟨k + 1, A', X', by omega, by go_num, HR3, HT3, HB3⟩
          case measure => simp [intOf]; omega
      · clear HADD HREM
        by_cases h1 : k < l.length
        · have h2 : (200 : Int) ≤ (k : Int) := by omega
          clear hlt
          go_wp2_with fail
          go_meet
          exact ⟨A, X, HR, HT, HB⟩
        · clear hlt
          go_wp2_with fail
          go_meet
          exact ⟨A, X, HR, HT, HB⟩
  case rest =>
    obtain ⟨A, X, HR, HT2, HB2⟩ := hcut
    have HALL := Lib.hid (fun W h => all_any (T := T) (B := w.heap.size) (A := A) (X := X) (bt := bt) (b := b) HR.out W h)
    have HSURE := Lib.hid (fun w => sure_any w)
    obtain ⟨L, hL⟩ : ∃ L, L = X.pt 0 := ⟨_, rfl⟩
    have HL := Lib.hid hL
    rw [← hL] at HALL
    have hn0 : 0 < L.length := by rw [hL, pt_eq HR.out.tree HR.out.tree.t0]; simp
    have hn64 : L.length ≤ 64 := by rw [hL]; exact pt_len HR.out.tree HR.out.tree.t0
    clear HN HV HT HB hL
    go_wp2_with fail
    refine (HALL.out _ HT2.out).mono ?_
    rintro e wa ⟨va, rfl, ho, hb⟩
    have HRA := Lib.hid (fun W (h : Below wa.heap.size wa W) => ho.below h)
    obtain ⟨ga, ca, cura, hva, _, _⟩ := own_block ho (by rw [List.length_map]; exact hn0)
    rw [List.length_map] at hva
    subst hva
    have HTa := Lib.hid (fun W (h : Below wa.heap.size wa W) => (HT2.out.below hb).below h)
    have HBa := Lib.hid (bnext HB2.out hb)
    clear ho hb HT2 HB2
    go_upto_block 2 with fail
    go_cut [] (fun wx => Hid (Below wa.heap.size wa wx))
    case first =>
      go_wp2_with fail
      go_loopw [10] (fun iv wr => ∃ k : Nat, k ≤ L.length ∧ iv = .int .i64 k ∧ Hid (Below wa.heap.size wa wr)) (fun iv _ => L.length - (intOf iv).toNat)
      case atStart => exact ⟨0, Nat.zero_le _, rfl, Lib.hid (Below.refl _ _)⟩
      case round =>
        obtain ⟨k, hk, rfl, HB⟩ := hrel
        by_cases hlt : k < L.length
        · have hlt3 : (k : Int) < (L.length : Int) := by omega
          have k0 : (0 : Int) ≤ (k : Int) := by omega
          obtain ⟨x, hx⟩ : ∃ x, x = L[k] := ⟨_, rfl⟩
          have hxt : X.t x = true := (pt_all HR.out.tree).1 (by rw [← HL.out, hx]; exact List.getElem_mem hlt)
          have HXT := Lib.hid hxt
          have HCA := Lib.hid (show ∀ W, Below wa.heap.size wa W → W.cell? ⟨ga, k, none⟩ = some (.int .i64 (A.hd x)) from fun W h => by rw [hx]; exact (HRA.out W h).cell k hlt)
          have HPA := Lib.hid (fun W h => path_yes (T := T) (B := w.heap.size) (A := A) (X := X) (bt := bt) (b := b) HR.out W h x hxt)
          have HDE := Lib.hid (fun W h => depth_yes (T := T) (B := w.heap.size) (A := A) (X := X) (bt := bt) (b := b) HR.out W h x hxt)
          have HUP := Lib.hid (fun W h => parent_yes (T := T) (B := w.heap.size) (A := A) (bt := bt) (b := b) HR.out.good W h (A.hd x) x (HR.out.find hxt))
          have HPC := Lib.hid (show ∀ (B' : Nat) (g cp m : Nat) W, OwnH B' W (.slice (some ⟨g, 0, none⟩) m cp) ((X.path x).map A.hd) → (W.cell? ⟨g, X.d x, none⟩ = some (.int .i64 (A.hd x)) ∧ W.cell? ⟨g, 0, none⟩ = some (.int .i64 1099511627777)) from fun B' g cp m W h =>
            ⟨h.cellq (path_last HR.out hxt), by rw [h.cellq (path_first HR.out hxt), HR.out.root]⟩)
          have hn8 : ((X.d x : Nat) : Int) ≤ 8 := by have := HR.out.tree.d8 x hxt; omega
          have hlp : ((X.path x).map A.hd).length = X.d x + 1 := by rw [List.length_map, path_len]
          have HQ0 := Lib.hid (show x = 0 → (A.hd x == 1099511627777) = true from fun e => by rw [e, HR.out.root]; rfl)
          have HQ1 := Lib.hid (show x ≠ 0 → (A.hd x == 1099511627777) = false from fun e => by rw [beq_eq_false_iff_ne, ← HR.out.root]; exact fun h => e (HR.out.inj hxt HR.out.tree.t0 h))
          obtain ⟨n, hn⟩ : ∃ n, n = X.d x := ⟨_, rfl⟩
          obtain ⟨y, hy⟩ : ∃ y, y = A.hd x := ⟨_, rfl⟩
          rw [← hy] at HCA HPA HDE HUP HPC HQ0 HQ1
          rw [← hn] at HDE HPC hn8 hlp
          have HN := Lib.hid hn
          have HY := Lib.hid hy
          have n0 : (0 : Int) ≤ (n : Int) := by omega
          have hw1 : IntKind.i64.wrap ((n : Int) + 1) = (n : Int) + 1 := IntWalk.i64_in _ (by omega)
          have hd0 : decide ((n : Int) < 0) = false := decide_eq_false (by omega)
          have hd8 : decide ((8 : Int) < (n : Int)) = false := decide_eq_false (by omega)
          have hnn : (n : Int) < (n : Int) + 1 := by omega
          have hnm : n < n + 1 := by omega
          have hn1 : (0 : Int) < (n : Int) + 1 := by omega
          have hn2 : 0 < n + 1 := by omega
          obtain ⟨z, hz⟩ : ∃ z, z = getV A y := ⟨_, rfl⟩
          rw [← hz] at HUP
          have HZ := Lib.hid hz
          have hca := HCA.out wr HB.out
          clear hx hxt hn hy hlt hz
          go_wp2_with fail
          refine (HPA.out _ (HTa.out _ HB.out)).mono ?_
          rintro e w1 ⟨vp, rfl, ho, hb⟩
          obtain ⟨gp, cp, curp, hvp, _, _⟩ := own_block ho (by rw [hlp]; omega)
          rw [hlp] at hvp
          subst hvp
          have HO := Lib.hid (fun W (h : Below w1.heap.size w1 W) => ho.below h)
          have HB1 := Lib.hid (bnext HB.out hb)
          have hca1 := HCA.out w1 HB1.out
          clear ho hb hca
          go_wp2_with fail
          refine (HDE.out _ (HTa.out _ HB1.out)).mono ?_
          rintro e w2 ⟨rfl, hb⟩
          have HB2 := Lib.hid (bnext HB1.out hb)
          have HBP := Lib.hid hb
          have hca2 := HCA.out w2 HB2.out
          clear hb hca1
          go_wp2_with fail
          refine (HUP.out _ (HTa.out _ HB2.out)).mono ?_
          rintro e w3 ⟨rfl, hb⟩
          have HB3 := Lib.hid (bnext HB2.out hb)
          have HO3 := Lib.hid (fun W (h : Below w3.heap.size w3 W) => HO.out W (bnext (bnext HBP.out hb) h))
          have hca3 := HCA.out w3 HB3.out
          obtain ⟨hp1, hp2⟩ := HPC.out _ _ _ _ _ (HO3.out w3 (Below.refl _ _))
          clear hb hca2 HB1 HB2 HO HBP
          go_wp2_with fail
          go_quiet ((go_at_call 12; exact Calls.quiet_of_same ((root_any _ _).mono fun _ _ h => ⟨h.1, h.2.symm⟩)))
          have HB4 := Lib.hid (show Below wa.heap.size wa (w3.drewN nq) from below_drewN HB3.out _)
          have HO4 := Lib.hid (fun W (h : Below (w3.drewN nq).heap.size (w3.drewN nq) W) => HO3.out W (bnext (below_drewN (Below.refl _ _) nq) h))
          have hca4 := HCA.out _ HB4.out
          clear hca3 hp1 hp2 HO3 HB3
          generalize w3.drewN nq = w4 at *
          go_wp2_with fail
          by_cases hx0 : x = 0
          · have hq := HQ0.out hx0
            clear hx0
            go_quiet ((go_at_call 12; exact Calls.quiet_of_same ((root_any _ _).mono fun _ _ h => ⟨h.1, h.2.symm⟩)))
            have HB5 := Lib.hid (show Below wa.heap.size wa (w4.drewN nq) from below_drewN HB4.out _)
            clear hca4 HO4 HB4
            generalize w4.drewN nq = w5 at *
            go_wp2_with fail
            go_roundw
            case rel => exact ⟨k + 1, by omega, by go_num, HB5⟩
            case measure => simp [intOf]; omega
          · have hq := HQ1.out hx0
            have HX0 := Lib.hid hx0
            clear hx0
            go_quiet ((go_at_call 12; exact Calls.quiet_of_same ((root_any _ _).mono fun _ _ h => ⟨h.1, h.2.symm⟩)))
            have HB5 := Lib.hid (show Below wa.heap.size wa (w4.drewN nq) from below_drewN HB4.out _)
            have HO5 := Lib.hid (fun W (h : Below (w4.drewN nq).heap.size (w4.drewN nq) W) => HO4.out W (bnext (below_drewN (Below.refl _ _) nq) h))
            clear hca4 HO4 HB4
            generalize w4.drewN nq = w5 at *
            have hut := HR.out.tree.up x HXT.out HX0.out
            have hzu : z = A.hd (X.u x) := by rw [HZ.out, HY.out, HR.out.get_up HXT.out HX0.out]
            have HKI := Lib.hid (fun W h => kids_yes (T := T) (B := w.heap.size) (A := A) (X := X) (bt := bt) (b := b) HR.out W h (X.u x) hut.1)
            have HCN := Lib.hid (show cnt ((X.kids (X.u x)).map A.hd) y = 1 from by rw [HY.out]; exact cnt_kid HR.out HXT.out HX0.out)
            have hnx : n = X.d (X.u x) + 1 := by rw [HN.out]; exact hut.2
            have HPV := Lib.hid (show ∀ (B' : Nat) (g cp m : Nat) W, OwnH B' W (.slice (some ⟨g, 0, none⟩) m cp) ((X.path x).map A.hd) → W.cell? ⟨g, n - 1, none⟩ = some (.int .i64 z) from fun B' g cp m W h => by
              rw [HN.out, hzu]; exact h.cellq (path_prev HR.out HXT.out HX0.out))
            have hkl : ((X.kids (X.u x)).map A.hd).length ≤ 64 := by
              rw [List.length_map]
              exact few (kids_nodup X _) (n := 64) (fun q hq => HR.out.tree.lt q ((mem_kids HR.out.tree).1 hq).1)
            rw [← hzu] at HKI
            obtain ⟨n', hn'⟩ : ∃ n', n' = n - 1 := ⟨_, rfl⟩
            have hnn' : n = n' + 1 := by omega
            rw [← hn'] at HPV
            clear hut hzu hnx hn'
            generalize (X.kids (X.u x)).map A.hd = K at *
            go_wp2_with fail
            refine (HKI.out _ (HTa.out _ HB5.out)).mono ?_
            rintro e w6 ⟨vk, rfl, ho, hb⟩
            have HKL := Lib.hid (fun W (h : Below w6.heap.size w6 W) => (ho.below h).lst (by omega))
            obtain ⟨pk, ck, rfl⟩ := ho.shape
            have HB6 := Lib.hid (bnext HB5.out hb)
            have HO6 := Lib.hid (fun W (h : Below w6.heap.size w6 W) => HO5.out W (bnext hb h))
            clear ho hb HB5 HO5
            go_wp2_with fail
            go_loopw [19, 20] (fun cv iv wr => ∃ m c : Nat, m ≤ K.length ∧ iv = .int .i64 m ∧ cv = .int .i64 c ∧ Hid (c = cnt (K.take m) y) ∧ c ≤ m ∧ Hid (Below w6.heap.size w6 wr)) (fun _ iv _ => K.length - (intOf iv).toNat)
            case atStart => exact ⟨0, 0, Nat.zero_le _, rfl, rfl, Lib.hid (by simp [cnt]), Nat.le_refl _, Lib.hid (Below.refl _ _)⟩
            case round =>
              obtain ⟨m, c, hm, rfl, rfl, HC, hcm, HBI⟩ := hrel
              by_cases hml : m < K.length
              · obtain ⟨_, _, hsl, _, hcs⟩ := HKL.out wr HBI.out
                injection hsl with hs1 hs2 hs3
                subst hs1 hs3
                obtain ⟨gk, ok, rfl, _, hck⟩ := hcs m _ (ints_at hml)
                have hca6 := HCA.out wr (bnext HB6.out HBI.out)
                have m0 : (0 : Int) ≤ (m : Int) := by omega
                have m1 : (m : Int) < (K.length : Int) := by omega
                have HC2 := Lib.hid (show cnt (K.take (m + 1)) y = c + if K.getD m 0 = y then 1 else 0 from by
                  rw [List.take_succ_eq_append_getElem hml, cnt_snoc, HC.out]
                  simp [List.getD_eq_getElem?_getD, hml])
                clear hcs hs2
                generalize K.getD m 0 = q at *
                by_cases hqy : q = y
                · rw [if_pos hqy] at HC2
                  have hqb : (q == y) = true := by rw [beq_iff_eq]; exact hqy
                  clear hqy
                  go_wp2_with fail
                  go_quiet (fail)
                  have HBI2 := Lib.hid (show Below w6.heap.size w6 (wr.drewN nq) from below_drewN HBI.out _)
                  go_wp2_with fail
                  go_roundw
                  case rel => exact ⟨m + 1, c + 1, by omega, by go_num, by go_num, Lib.hid HC2.out.symm, by omega, HBI2⟩
                  case measure => simp [intOf]; omega
                · rw [if_neg hqy] at HC2
                  have hqb : (q == y) = false := by rw [beq_eq_false_iff_ne]; exact hqy
                  clear hqy
                  go_wp2_with fail
                  go_quiet (fail)
                  have HBI2 := Lib.hid (show Below w6.heap.size w6 (wr.drewN nq) from below_drewN HBI.out _)
                  go_wp2_with fail
                  go_roundw
                  case rel => exact ⟨m + 1, c, by omega, by go_num, rfl, Lib.hid HC2.out.symm, by omega, HBI2⟩
                  case measure => simp [intOf]; omega
              · have hc1 : c = 1 := by rw [HC.out, List.take_of_length_le (by omega), HCN.out]
                have hge : (K.length : Int) ≤ (m : Int) := by omega
                subst hc1
                have hpv := HPV.out _ _ _ _ _ (HO6.out wr HBI.out)
                have HB7 := Lib.hid (bnext HB6.out HBI.out)
                have hdd : decide ((n' : Int) + 1 < 1) = false := decide_eq_false (by omega)
                have hww : IntKind.i64.wrap ((n' : Int) + 1 - 1) = (n' : Int) := by rw [IntWalk.i64_in _ (by omega)]; omega
                have hne : (n' : Int) < (n' : Int) + 1 + 1 := by omega
                have hne2 : n' < n' + 1 + 1 := by omega
                have hne3 : (0 : Int) ≤ (n' : Int) := by omega
                clear hml
                go_wp2_with fail
                go_roundw
                case rel => exact ⟨k + 1, by omega, by go_num, HB7⟩
                case measure => simp [intOf]; omega
        · have hge : (L.length : Int) ≤ (k : Int) := by omega
          go_wp2_with fail
          go_meet
          exact HB
    case rest =>
      have HB9 := hcut
      clear hcut
      by_cases hl1 : L.length = 1
      · have hl2 : (L.length : Int) < 2 := by omega
        have hl3 : ((L.length : Int) == 1) = true := by rw [beq_iff_eq]; omega
        clear hl1
        go_wp2_with fail
        refine (HSURE.out _).mono ?_
        rintro e w2 ⟨rfl, hb⟩
        go_wp2_with fail
        go_ret
        exact ⟨rfl, bnext (bnext HBa.out HB9.out) hb⟩
      · obtain ⟨r, hr⟩ : ∃ r, L.length = r + 1 := ⟨L.length - 1, by omega⟩
        have hr1 : 0 < r := by omega
        obtain ⟨m, hm, hidx⟩ := idx_ok last r hr1 (by omega)
        have hml : 1 + m < L.length := by omega
        obtain ⟨x, hx⟩ : ∃ x, x = L[1 + m] := ⟨_, rfl⟩
        have hxq : (X.pt 0)[1 + m]? = some x := by rw [← HL.out, List.getElem?_eq_getElem hml, hx]
        have hxt : X.t x = true := (pt_all HR.out.tree).1 (List.mem_of_getElem? hxq)
        have hx0 : x ≠ 0 := pt_not0 HR.out (by omega) hxq
        have hct : wc.cell? ⟨ga, 1 + m, none⟩ = some (.int .i64 (A.hd x)) := by rw [hx]; exact (HRA.out wc HB9.out).cell (1 + m) hml
        have hd2 : decide ((r : Int) + 1 < 2) = false := decide_eq_false (by omega)
        have hd64 : decide ((64 : Int) < (r : Int) + 1) = false := decide_eq_false (by omega)
        have hr64 : r ≤ 63 := by omega
        have m0 : (0 : Int) ≤ 1 + (m : Int) := by omega
        have m1 : 1 + (m : Int) < (r : Int) + 1 := by omega
        have m2 : 1 + m < r + 1 := by omega
        have HXT := Lib.hid hxt
        have HX0 := Lib.hid hx0
        have HRL := Lib.hid hr
        have HWI := Lib.hid (fun W h j hj => within_yes (T := T) (B := w.heap.size) (A := A) (X := X) (bt := bt) (b := b) HR.out W h j x hj hxt)
        have HREM := Lib.hid (fun W h => remT_yes (T := T) (B := w.heap.size) (A := A) (X := X) (bt := bt) (b := b) HR.out W h x hxt hx0)
        obtain ⟨y, hy⟩ : ∃ y, y = A.hd x := ⟨_, rfl⟩
        rw [← hy] at hct HWI HREM
        have HY := Lib.hid hy
        clear hl1 hml hx hxq hxt hx0 hy
        have HTLc := Lib.hid (show ∀ q, T q → q < wc.heap.size from fun q hq => ((HTa.out wc HB9.out).p.lt q hq).2)
        go_upto_block 6 with fail
        clear hr hd2 hd64 hidx hct hr1
        have hL64 : L.length ≤ 64 := hn64
        obtain ⟨i0, hinf, hz0, hz1, hz2⟩ := info_parts Try.info27
        go_cut [22, 23] (fun wv ov wx => Hid (Two wc.heap.size wx wv ov ((L.filter fun j => decide (j ∈ X.pt x)).map A.hd) ((L.filter fun j => decide (j ∉ X.pt x)).map A.hd)) ∧ Hid (Below wa.heap.size wa wx) ∧ Hid (Below wc.heap.size wc wx))
        case first =>
          go_wp2_with fail
          go_loopw [22, 23, 24] (fun wv ov iv wr => ∃ (k : Nat) (WL OL : List Nat), k ≤ L.length ∧ iv = .int .i64 k ∧ Hid (WL = (L.take k).filter fun j => decide (j ∈ X.pt x)) ∧ Hid (OL = (L.take k).filter fun j => decide (j ∉ X.pt x)) ∧ WL.length ≤ k ∧ OL.length ≤ k ∧
            Hid (Two wc.heap.size wr wv ov (WL.map A.hd) (OL.map A.hd)) ∧ Hid (Below wc.heap.size wc wr)) (fun _ _ iv _ => L.length - (intOf iv).toNat)
          case atStart => exact ⟨0, [], [], Nat.zero_le _, rfl, Lib.hid rfl, Lib.hid rfl, Nat.le_refl _, Nat.le_refl _, Lib.hid (Two.nil _ _), Lib.hid (Below.refl _ _)⟩
          case round =>
            obtain ⟨k, WL, OL, hk, rfl, HWL, HOL, hwk, hok, HTW, HB⟩ := hrel
            by_cases hlt : k < L.length
            · have hlt3 : (k : Int) < (L.length : Int) := by omega
              have k0 : (0 : Int) ≤ (k : Int) := by omega
              have hkt : X.t L[k] = true := (pt_all HR.out.tree).1 (by rw [← HL.out]; exact List.getElem_mem hlt)
              have hbw := bnext HB9.out HB.out
              have hca := (HRA.out wr hbw).cell k hlt
              have HC := Lib.hid (HWI.out wr (HTa.out wr hbw) L[k] hkt)
              have HB2' := Lib.hid (fun w2 (h : Below wr.heap.size wr w2) => (HRA.out w2 (bnext hbw h)).cell k hlt)
              have HT1 := Lib.hid (show L.take (k + 1) = L.take k ++ [L[k]] from List.take_succ_eq_append_getElem hlt)
              clear hkt hbw
              by_cases hin : L[k] ∈ X.pt x
              · have HW2 := Lib.hid (show WL ++ [L[k]] = (L.take (k + 1)).filter fun j => decide (j ∈ X.pt x) from by rw [HT1.out, List.filter_append, ← HWL.out, List.filter_cons, if_pos (by simp [hin])]; rfl)
                have HO2 := Lib.hid (show OL = (L.take (k + 1)).filter fun j => decide (j ∉ X.pt x) from by rw [HT1.out, List.filter_append, ← HOL.out, List.filter_cons, if_neg (by simp [hin])]; simp)
                rw [decide_eq_true hin] at HC
                clear hin HT1
                obtain ⟨e, he⟩ : ∃ e, e = L[k] := ⟨_, rfl⟩
                rw [← he] at HW2 HC hca HB2'
                clear he hlt
                obtain ⟨q, hq⟩ : ∃ q, q = A.hd e := ⟨_, rfl⟩
                rw [← hq] at HC hca HB2'
                have HQ := Lib.hid hq
                clear hq
                go_wp2_with fail
                refine HC.out.mono ?_
                rintro e' w2 ⟨rfl, hb⟩
                have HTW2 := Lib.hid (HTW.out.below hb)
                have HBB := Lib.hid (bnext HB.out hb)
                have hca2 := HB2'.out w2 hb
                have hszc := HBB.out.size
                clear hb hca HB2'
                obtain ⟨pw, cw, hpw⟩ := (HTW2.out).a.shape
                rw [List.length_map] at hpw
                subst hpw
                go_wp2_with (at_builtin; refine wpList_append_own_at _ rfl _ _ 25 rfl wc.heap.size 27 i0 (.int .i64 0) 1 8 Try.underlying25 hinf hz0 hz1 hz2 rfl (by decide) _ _ _ rfl (World.ownsRow.alloc (HTW2.out).a _) ⟨w2.heap.size, 0, none⟩ 1 1 [.int .i64 q] rfl rfl ?a1 ?a2 ?a3 ?a4 ?a5 ?_)
                case a1 => exact news_one w2 _ _
                case a2 => intro u hu; simp at hu; subst hu; rfl
                case a3 => unfold maxLen; simp; omega
                case a4 => simp; omega
                case a5 => simp; omega
                intro v' w3 hown3 hgrow3 _ hat3
                have HTW3 := Lib.hid (show Two wc.heap.size w3 v' _ ((WL ++ [e]).map A.hd) (OL.map A.hd) from by
                  have := HTW2.out.push (y := q) (by rw [List.length_map]; exact hown3) hgrow3 hat3
                  rw [HQ.out] at this
                  simpa using this)
                have HB3 := Lib.hid (show Below wc.heap.size wc w3 from (below_alloc HBB.out _).grown hgrow3 (by simp; omega) (fun g e => (World.ownsRow.lt HTW2.out.a g e).1))
                clear hown3 hgrow3 hat3
                go_wp2_with fail
                go_roundw
                case rel => exact ⟨k + 1, WL ++ [e], OL, by omega, by go_num, HW2, HO2, by simp; omega, by omega, HTW3, HB3⟩
                case measure => simp [intOf]; omega
              · have HW2 := Lib.hid (show WL = (L.take (k + 1)).filter fun j => decide (j ∈ X.pt x) from by rw [HT1.out, List.filter_append, ← HWL.out, List.filter_cons, if_neg (by simp [hin])]; simp)
                have HO2 := Lib.hid (show OL ++ [L[k]] = (L.take (k + 1)).filter fun j => decide (j ∉ X.pt x) from by rw [HT1.out, List.filter_append, ← HOL.out, List.filter_cons, if_pos (by simp [hin])]; rfl)
                rw [decide_eq_false hin] at HC
                clear hin HT1
                obtain ⟨e, he⟩ : ∃ e, e = L[k] := ⟨_, rfl⟩
                rw [← he] at HO2 HC hca HB2'
                clear he hlt
                obtain ⟨q, hq⟩ : ∃ q, q = A.hd e := ⟨_, rfl⟩
                rw [← hq] at HC hca HB2'
                have HQ := Lib.hid hq
                clear hq
                go_wp2_with fail
                refine HC.out.mono ?_
                rintro e' w2 ⟨rfl, hb⟩
                have HTW2 := Lib.hid (HTW.out.below hb)
                have HBB := Lib.hid (bnext HB.out hb)
                have hca2 := HB2'.out w2 hb
                have hszc := HBB.out.size
                clear hb hca HB2'
                obtain ⟨po, co, hpw⟩ := (HTW2.out.symm).a.shape
                rw [List.length_map] at hpw
                subst hpw
                go_wp2_with (at_builtin; refine wpList_append_own_at _ rfl _ _ 25 rfl wc.heap.size 27 i0 (.int .i64 0) 1 8 Try.underlying25 hinf hz0 hz1 hz2 rfl (by decide) _ _ _ rfl (World.ownsRow.alloc (HTW2.out.symm).a _) ⟨w2.heap.size, 0, none⟩ 1 1 [.int .i64 q] rfl rfl ?a1 ?a2 ?a3 ?a4 ?a5 ?_)
                case a1 => exact news_one w2 _ _
                case a2 => intro u hu; simp at hu; subst hu; rfl
                case a3 => unfold maxLen; simp; omega
                case a4 => simp; omega
                case a5 => simp; omega
                intro v' w3 hown3 hgrow3 _ hat3
                have HTW3 := Lib.hid (show Two wc.heap.size w3 _ v' (WL.map A.hd) ((OL ++ [e]).map A.hd) from by
                  have := HTW2.out.symm.push (y := q) (by rw [List.length_map]; exact hown3) hgrow3 hat3
                  rw [HQ.out] at this
                  have := this.symm
                  simpa using this)
                have HB3 := Lib.hid (show Below wc.heap.size wc w3 from (below_alloc HBB.out _).grown hgrow3 (by simp; omega) (fun g e => (World.ownsRow.lt HTW2.out.symm.a g e).1))
                clear hown3 hgrow3 hat3
                go_wp2_with fail
                go_roundw
                case rel => exact ⟨k + 1, WL, OL ++ [e], by omega, by go_num, HW2, HO2, by omega, by simp; omega, HTW3, HB3⟩
                case measure => simp [intOf]; omega
            · have hge : (L.length : Int) ≤ (k : Int) := by omega
              have HE1 := Lib.hid (show WL = L.filter fun j => decide (j ∈ X.pt x) from by rw [HWL.out, List.take_of_length_le (by omega)])
              have HE2 := Lib.hid (show OL = L.filter fun j => decide (j ∉ X.pt x) from by rw [HOL.out, List.take_of_length_le (by omega)])
              go_wp2_with fail
              go_meet
              exact ⟨by rw [← HE1.out, ← HE2.out]; exact HTW, Lib.hid (bnext HB9.out HB.out), HB⟩
        case rest =>
          obtain ⟨HTW, HB10, HBC⟩ := hcut
          have HT10 := Lib.hid (HTa.out _ HB10.out)
          have HR2 := Lib.hid (HR.out.remove HXT.out HX0.out)
          have HWA := Lib.hid (within_all HR.out.tree HXT.out)
          have HRLI := Lib.hid (rem_list HR.out HXT.out HX0.out)
          have hp64 : (X.pt x).length ≤ 64 := pt_len HR.out.tree HXT.out
          have ho64 : (L.filter fun j => decide (j ∉ X.pt x)).length ≤ 64 := by
            have := List.length_filter_le (fun j => decide (j ∉ X.pt x)) L
            omega
          have HALL2 := Lib.hid (fun W h => all_any (T := T) (B := w.heap.size) (A := dropAll A (X.pt x)) (X := X.rem x) (bt := bt) (b := b) HR2.out W h)
          rw [HRLI.out, ← HL.out] at HALL2
          rw [← HL.out] at HWA
          rw [HWA.out] at HTW
          have hpl : ((X.pt x).map A.hd).length ≤ 64 := by rw [List.length_map]; exact hp64
          have hol : ((L.filter fun j => decide (j ∉ X.pt x)).map A.hd).length ≤ 64 := by rw [List.length_map]; exact ho64
          generalize (L.filter fun j => decide (j ∉ X.pt x)).map A.hd = O at *
          generalize (X.pt x).map A.hd = P at *
          clear HALL HWI HRA hp64 ho64 HWA HRLI HR2
          obtain ⟨pw, cw, hpw⟩ := HTW.out.a.shape
          obtain ⟨po, co, hpo⟩ := HTW.out.b.shape
          subst hpw hpo
          go_wp2_with fail
          refine (HREM.out _ HT10.out).mono ?_
          rintro e w2 ⟨vg, rfl, hog, htg, hkg⟩
          obtain ⟨pg, cg, rfl⟩ := hog.shape
          have hlPm : P.length ≤ 4096 := by omega
          have hlOm : O.length ≤ 4096 := by omega
          have HTW2 := Lib.hid (HTW.out.keeps hkg HTLc.out)
          have HT11 := Lib.hid htg
          have HB11 := Lib.hid (show Below w.heap.size w w2 from (bnext HBa.out HB10.out).trans (hkg.below (bnext HBa.out HB10.out).size (fun q hq => (HTL.out q hq).1)))
          have HGW := Lib.hid (fun W (h : Below w2.heap.size w2 W) => (hog.below h).lst hlPm)
          have HWW := Lib.hid (fun W (h : Below w2.heap.size w2 W) => (HTW2.out.below h).a.lst hlPm)
          have HOW := Lib.hid (fun W (h : Below w2.heap.size w2 W) => (HTW2.out.below h).b.lst hlOm)
          have HALLW := Lib.hid (fun W (h : Below w2.heap.size w2 W) => HALL2.out W (HT11.out.below h))
          have HKEEP := Lib.hid (show ∀ W, Below w2.heap.size w2 W → (True ∧ Below w2.heap.size w2 W) from fun W h => ⟨trivial, h⟩)
          clear hog htg hkg HTW HT10 HB10 HREM HALL2
          go_wp2_with fail
          have r0 := Below.refl w2.heap.size w2
          refine (same_yes _ _ _ P (HGW.out _ r0) (HWW.out _ r0) hlPm).mono ?_
          rintro e w3 ⟨rfl, hb3⟩
          go_wp2_with fail
          refine (HALLW.out _ hb3).mono ?_
          rintro e w4 ⟨vz, rfl, ho, hb⟩
          obtain ⟨pz, cz, rfl⟩ := ho.shape
          have hzl := ho.lst hlOm
          have hb4 := bnext hb3 hb
          go_wp2_with fail
          refine (same_yes _ _ _ O hzl (HOW.out _ hb4) hlOm).mono ?_
          rintro e w5 ⟨rfl, hb⟩
          have hb5 := bnext hb4 hb
          go_wp2_with fail
          refine (HSURE.out _).mono ?_
          rintro e w6 ⟨rfl, hb⟩
          have hb6 := bnext hb5 hb
          go_wp2_with fail
          go_ret
          exact ⟨rfl, bnext HB11.out hb6⟩
end Go.Proofs.Ytkfcmpakocidoaa
