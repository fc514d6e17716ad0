/- The walk of the law BoundsOnce: it answers true whatever is put in; it writes nothing that was there; no condition but how the argument reads. -/
import Derived.Test.YtknhjbfhkfngeaaNOnceM
import Derived.Test.YtknhjbfhkfngeaaNSure
import Derived.Test.YtknhjbfhkfngeaaNOpens
import Derived.Deep.CutBlock
import Derived.Deep.CutRange
import Derived.Deep.DeepCutAuto
namespace Go.Proofs.Ytknhjbfhkfngeaa
open Go.RowKit Go.Maps Hp Cal

theorem idx_of (x : Int) (n : Nat) (h : 0 < n) (h2 : n ≤ 500) : ∃ m : Nat, m < n ∧ wrap64 ((IntKind.u64.wrap x).tmod (n : Int)) = (m : Int) := by
  have h0 : 0 ≤ IntKind.u64.wrap x := by rw [IntKind.wrap_u64]; omega
  have e : (IntKind.u64.wrap x).tmod (n : Int) = (IntKind.u64.wrap x) % (n : Int) := Int.tmod_eq_emod_of_nonneg h0
  have a := Int.emod_nonneg (IntKind.u64.wrap x) (show (n : Int) ≠ 0 by omega)
  have b := Int.emod_lt_of_pos (IntKind.u64.wrap x) (show (0 : Int) < (n : Int) by omega)
  rw [e]
  generalize IntKind.u64.wrap x % (n : Int) = r at *
  exact ⟨r.toNat, by omega, by rw [IntWalk.wrap64_in _ (by omega)]; omega⟩
set_option maxHeartbeats 4000000 in
set_option maxRecDepth 100000 in
theorem once_any (v : Value) (l : List (Int × Int × Int)) (st : Int) (w : World) (ho : OpsAt w v l) :
    Calls Try.prog 3 #[v, .int .i64 st] w fun e w' => e = .returned (.bool true) ∧ Below w.heap.size w w' := by
  obtain ⟨i0, hi, hz0, hz1, hz2⟩ := info_parts Try.info3
  have HOW := Lib.hid ho
  obtain ⟨p, cap, rfl, hl63, _⟩ := ho
  have hl63' : (l.length : Int) ≤ 9223372036854775807 := by omega
  have HF0 := Lib.hid (cnew_any (B := w.heap.size) w (Nat.le_refl _))
  go_enter Try.func3, Try.ntmps3
  go_wp2_with fail
  refine HF0.out.mono ?_
  rintro e w1 ⟨c, S, rfl, hc, hb, hS⟩
  have HC := Lib.hid hc
  have HB := Lib.hid hb
  have hws := hb.size
  have HZ := Lib.hid (num_zeros 64)
  have HSl := Lib.hid (show ∀ x, S x → x < w1.heap.size from fun x hx => (hc.lt x hx).2)
  clear hc hb HF0 hS
  go_wp2_with (at_make; refine wpList_make_full _ rfl _ _ 25 rfl w.heap.size 3 i0 (.int .i64 0) 1 Try.underlying25 hi hz0 hz1 .i64 .i64 _ _ 64 rfl rfl (by first | rfl | omega) (by first | rfl | omega) (by rw [hz2]; omega) (by unfold maxLen; omega) hws ?_; intro w3 hown3 hgrow3)
  rw [HZ.out] at hown3
  have HW0 := Lib.hid (show OnceW w c w1.heap.size (fun _ => 0) [] w3 from ⟨⟨S, HC.out.below (below_of_grown hgrow3), fun h => by have := HSl.out _ h; omega⟩, hown3, bnext HB.out (below_of_grown hgrow3)⟩)
  clear hown3 hgrow3
  generalize w1.heap.size = g at *
  rw [← hlf_0 (fun _ => (-1 : Int))] at HW0
  go_loopw [7] (fun iv wr => ∃ k : Nat, iv = .int .i64 k ∧ k ≤ 64 ∧ Hid (OnceW w c g (hlf (fun _ => (-1 : Int)) k) [] wr)) (fun iv _ => 64 - (intOf iv).toNat)
  case atStart => exact ⟨0, rfl, Nat.zero_le _, HW0⟩
  case round =>
    obtain ⟨k, rfl, hk, HW⟩ := hrel
    clear HW0 HC HB HZ HSl
    by_cases hlt : k < 64
    · have hlt' : (k : Int) < 64 := by omega
      obtain ⟨c0, zf⟩ := HW.out.at hlt
      rw [hlf_at] at c0
      have HW2 := Lib.hid (show OnceW w c g (hlf (fun _ => (-1 : Int)) (k + 1)) [] (wr.setCell ⟨g, k, none⟩ (.int .i64 (-1))) from by
        have h := HW.out.set k (-1)
        rwa [hlf_upd (fun _ => (-1 : Int)) k] at h)
      go_wp2_with fail
      go_roundw
      case rel => exact ⟨k + 1, by go_num, by omega, HW2⟩
      case measure => simp [intOf]; omega
    · have hg3 : decide ((k : Int) < 64) = false := decide_eq_false (by omega)
      have HL0 := Lib.hid (show Lg (hlf (fun _ => (-1 : Int)) k) [] from lg_0 fun i hi => if_pos (by omega))
      have HW1 := Lib.hid (show ∃ f, OnceW w c g f [] wr ∧ Lg f [] from ⟨_, HW.out, HL0.out⟩)
      clear hlt HW HL0
      go_upto_block 2 with fail
      clear hg3 hk
      go_cut [8] (fun iv wx => ∃ (f : Nat → Int) (L : List Pr), L.length ≤ 200 ∧ OnceW w c g f L wx ∧ Lg f L ∧ Cal.Good L)
      case first =>
        go_wp2_with fail
        go_loopw [8] (fun iv wr => ∃ (k : Nat) (f : Nat → Int) (L : List Pr), iv = .int .i64 k ∧ k ≤ 200 ∧ k ≤ l.length ∧ L.length ≤ k ∧ Hid (OnceW w c g f L wr ∧ Lg f L ∧ Cal.Good L)) (fun iv _ => l.length - (intOf iv).toNat)
        case atStart => obtain ⟨f, h1, h2⟩ := HW1.out; exact ⟨0, f, [], rfl, by omega, by omega, by simp, Lib.hid ⟨h1, h2, good_nil⟩⟩
        case round =>
          obtain ⟨k, f, L, rfl, hk2, hkl, hLk, HR⟩ := hrel
          clear HW1
          by_cases hlt : k < l.length
          · by_cases hlt2 : k < 200
            · have hlt' : (k : Int) < (l.length : Int) := by omega
              have hlt2' : (k : Int) < 200 := by omega
              obtain ⟨⟨k0, id, tm⟩, hq⟩ : ∃ q, l[k]? = some q := ⟨_, List.getElem?_eq_getElem hlt⟩
              obtain ⟨p', cap', e1, _, hc2⟩ := HOW.out.below HR.out.1.below
              obtain ⟨b, off, rfl, c0, c1, c2, hid⟩ := hc2 k k0 id tm hq
              injection e1 with e1 _ e3
              subst e1
              obtain ⟨i, hi64, hm⟩ : ∃ i : Nat, i < 64 ∧ wrap64 ((IntKind.u64.wrap id).tmod 64) = (i : Int) := idx_of id 64 (by omega) (by omega)
              obtain ⟨a, ha5, hn⟩ : ∃ a : Nat, a < 500 ∧ wrap64 ((IntKind.u64.wrap tm).tmod 500) = (a : Int) := idx_of tm 500 (by omega) (by omega)
              clear hc2 hq e3 hid
              go_wp2_with fail
              go_quiet (fail)
              rw [hm, hn]
              have HR1 := Lib.hid (show OnceW w c g f L (wr.drewN nq) from HR.out.1.under (below_drewN (Below.refl _ _) _))
              have HP := Lib.hid (HR1.out.put hi64 (a := (a : Int)) (by omega) (by omega))
              have hpl := put_len (i : Nat) (a : Nat) L
              go_wp2_with fail
              refine HP.out.mono ?_
              rintro e w2 ⟨rfl, h2⟩
              obtain ⟨d0, zf⟩ := h2.at hi64
              have HR2 := Lib.hid (show OnceW w c g (upd f i (a : Int)) (putL (i : Nat) (a : Nat) L) (w2.setCell ⟨g, i, none⟩ (.int .i64 (a : Nat))) ∧ Lg (upd f i (a : Int)) (putL (i : Nat) (a : Nat) L) ∧ Cal.Good (putL (i : Nat) (a : Nat) L) from ⟨h2.set i (a : Int), lg_put HR.out.2.2 HR.out.2.1 hi64 (by omega) (by omega), putL_good HR.out.2.2⟩)
              have hi64' : (i : Int) < 64 := by omega
              have hi0' : (0 : Int) ≤ (i : Int) := by omega
              generalize f i = old at *
              clear h2 hm hn c0 c1 c2 HP HR1 HR
              go_wp2_with fail
              go_roundw
              case rel => exact ⟨k + 1, upd f i (a : Int), putL (i : Nat) (a : Nat) L, by go_num, by omega, by omega, by omega, HR2⟩
              case measure => simp [intOf]; omega
            · have hg3 : decide ((k : Int) < 200) = false := decide_eq_false (by omega)
              have hlt' : (k : Int) < (l.length : Int) := by omega
              clear hlt2
              go_wp2_with fail
              go_meet
              exact ⟨f, L, by omega, HR.out⟩
          · have hg3 : decide (k < l.length) = false := decide_eq_false hlt
            clear hlt
            go_wp2_with fail
            go_meet
            exact ⟨f, L, by omega, HR.out⟩
      case rest =>
        obtain ⟨f, L, hL2, hr⟩ := hcut
        have HR := Lib.hid hr
        clear hr HW1
        go_upto_region 16 with fail
        go_cut [1] (fun sv wx => ∃ s : Nat, 1 ≤ s ∧ s ≤ 500 ∧ sv = .int .i64 s ∧ wc = wx)
        case first =>
          go_wp2_with fail
          all_goals (go_meet; first | exact ⟨500, by omega, by omega, rfl, rfl⟩ | exact ⟨1, by omega, by omega, rfl, rfl⟩ | exact ⟨st.toNat, by omega, by omega, congrArg (Value.int .i64) (by omega), rfl⟩)
        case rest =>
          obtain ⟨s, hs1, hs5, rfl, rfl⟩ := hcut
          have hs1' : (1 : Int) ≤ (s : Int) := by omega
          have hs5' : (s : Int) ≤ 500 := by omega
          have HR0 := Lib.hid (show OnceW w c g f L wc ∧ Lg f L ∧ Cal.Good L ∧ ∀ x ∈ L, ((0 : Nat) : Int) - (s : Int) < x.2 from ⟨HR.out.1, HR.out.2.1, HR.out.2.2, fun x hx => by
            obtain ⟨i, _, _, e, h0, _⟩ := HR.out.2.1.1 x hx
            omega⟩)
          clear HR
          go_wp2_with fail
          go_loopw [11] (fun tv wr => ∃ (T : Nat) (f : Nat → Int) (L : List Pr), tv = .int .i64 T ∧ T < 1000 + s ∧ L.length ≤ 200 ∧ Hid (OnceW w c g f L wr ∧ Lg f L ∧ Cal.Good L ∧ ∀ x ∈ L, (T : Int) - (s : Int) < x.2)) (fun tv _ => 1000 - (intOf tv).toNat)
          case atStart => exact ⟨0, f, L, rfl, by omega, hL2, HR0⟩
          case round =>
            obtain ⟨T, f, L, rfl, hT, hL2, HR⟩ := hrel
            clear HR0
            by_cases hlt : T < 1000
            · have hlt' : (T : Int) < 1000 := by omega
              have HD := Lib.hid (HR.out.1.due HR.out.2.2.1 (by omega) (T : Int))
              have HKL := Lib.hid (dueN_le (t := (T : Int)) L)
              have HDT := Lib.hid (fun k (hk : k < dueN (T : Int) L) => due_at hk)
              have HDD := Lib.hid (fun x hx => due_drop (t := (T : Int)) HR.out.2.2.1 (x := x) hx)
              have HK4 : dueN (T : Int) L ≤ 200 := by have := HKL.out; omega
              have HLG := Lib.hid HR.out.2.1
              have HGD := Lib.hid HR.out.2.2.1
              generalize dueN (T : Int) L = K at *
              have HK4' : (K : Int) ≤ 200 := by omega
              clear HR
              go_wp2_with fail
              refine HD.out.mono ?_
              rintro e w2 ⟨pd, cd, rfl, hd⟩
              have HW2 := Lib.hid hd
              clear hd HD
              go_wp2_with fail
              go_loopw [13] (fun iv wr => ∃ k : Nat, iv = .int .i64 k ∧ k ≤ K ∧ Hid (DueW w c g f L (L.drop K) K (.slice pd K cd) wr)) (fun iv _ => K - (intOf iv).toNat)
              case atStart => exact ⟨0, rfl, Nat.zero_le _, HW2⟩
              case round =>
                obtain ⟨k, rfl, hk, HW⟩ := hrel
                clear HW2
                by_cases hkl : k < K
                · have hkl' : (k : Int) < (K : Int) := by omega
                  obtain ⟨b, rfl, c0⟩ := HW.out.at HKL.out hkl
                  obtain ⟨i, hi6, e1, e2, e3⟩ := lg_at HLG.out (k := k) (by have := HKL.out; omega)
                  obtain ⟨_, hle⟩ := HDT.out k hkl
                  obtain ⟨c1, _⟩ := HW.out.1.at hi6
                  rw [e1] at c0
                  rw [e2] at hle
                  generalize f i = y at *
                  have hi6' : (i : Int) < 64 := by omega
                  have hi0' : (0 : Int) ≤ (i : Int) := by omega
                  clear e1 e2
                  go_wp2_with fail
                  go_roundw
                  case rel => exact ⟨k + 1, by go_num, by omega, HW⟩
                  case measure => simp [intOf]; omega
                · have hg3 : decide (k < K) = false := decide_eq_false hkl
                  have HW3 := Lib.hid HW.out
                  clear hkl HW hk
                  go_wp2_with fail
                  go_loopw [15] (fun iv wr => ∃ m : Nat, iv = .int .i64 ((m : Int) + 1) ∧ m ≤ K ∧ Hid (DueW w c g f L (L.drop K) K (.slice pd K cd) wr)) (fun iv _ => K + 1 - (intOf iv).toNat)
                  case atStart => exact ⟨0, rfl, Nat.zero_le _, HW3⟩
                  case round =>
                    obtain ⟨m, rfl, hm, HW⟩ := hrel
                    clear HW3
                    by_cases hml : m + 1 < K
                    · have hml' : (m : Int) + 1 < (K : Int) := by omega
                      obtain ⟨b, rfl, c0⟩ := HW.out.at HKL.out (k := m) (by omega)
                      obtain ⟨b', eb, c0'⟩ := HW.out.at HKL.out hml
                      cases eb
                      have hLm : m + 1 < L.length := by have := HKL.out; omega
                      obtain ⟨i, hi6, e1, e2, _⟩ := lg_at HLG.out (k := m) (by omega)
                      obtain ⟨j, hj6, e1', e2', _⟩ := lg_at HLG.out hLm
                      have hlt2 := List.pairwise_iff_getElem.1 HGD.out.sorted m (m + 1) (by omega) hLm (by omega)
                      obtain ⟨c1, _⟩ := HW.out.1.at hi6
                      obtain ⟨c1', _⟩ := HW.out.1.at hj6
                      unfold Lt2 at hlt2
                      rw [e1, e2, e1', e2'] at hlt2
                      rw [e1] at c0
                      rw [e1'] at c0'
                      generalize f i = y at *
                      generalize f j = z at *
                      have hi6' : (i : Int) < 64 := by omega
                      have hi0' : (0 : Int) ≤ (i : Int) := by omega
                      have hj6' : (j : Int) < 64 := by omega
                      have hj0' : (0 : Int) ≤ (j : Int) := by omega
                      have hmK : (m : Int) < (K : Int) := by omega
                      have hm0 : (0 : Int) ≤ (m : Int) := by omega
                      have z1 : decide (z < y) = false := decide_eq_false (by omega)
                      have w1 : IntKind.i64.wrap ((m : Int) + 1 - 1) = (m : Int) := by rw [show (m : Int) + 1 - 1 = (m : Int) by omega]; exact IntWalk.i64_in _ (by omega)
                      clear e1 e2 e1' e2' hLm
                      rcases hlt2 with h1 | ⟨h1, h2⟩
                      · have z2 : (y == z) = false := by simp; omega
                        go_wp2_with fail
                        go_quiet (fail)
                        have HW5 := Lib.hid (HW.out.under (below_drewN (Below.refl _ _) nq))
                        go_wp2_with fail
                        go_roundw
                        case rel => exact ⟨m + 1, by go_num, by omega, HW5⟩
                        case measure => simp [intOf]; omega
                      · subst h1
                        have z3 : decide ((j : Int) ≤ (i : Int)) = false := decide_eq_false (by omega)
                        go_wp2_with fail
                        go_quiet (fail)
                        have HW5 := Lib.hid (HW.out.under (below_drewN (Below.refl _ _) nq))
                        go_wp2_with fail
                        go_roundw
                        case rel => exact ⟨m + 1, by go_num, by omega, HW5⟩
                        case measure => simp [intOf]; omega
                    · have hg3 : decide ((m : Int) + 1 < (K : Int)) = false := decide_eq_false (by omega)
                      have HW4 := Lib.hid HW.out
                      clear hml HW hm
                      go_wp2_with fail
                      go_loopw [16] (fun iv wr => ∃ k : Nat, iv = .int .i64 k ∧ k ≤ K ∧ Hid (DueW w c g (clr f L k) L (L.drop K) K (.slice pd K cd) wr)) (fun iv _ => K - (intOf iv).toNat)
                      case atStart => exact ⟨0, rfl, Nat.zero_le _, HW4⟩
                      case round =>
                        obtain ⟨k, rfl, hk, HW⟩ := hrel
                        clear HW4
                        by_cases hkl : k < K
                        · have hkl' : (k : Int) < (K : Int) := by omega
                          have hkL : k < L.length := by have := HKL.out; omega
                          obtain ⟨b, rfl, c0⟩ := HW.out.at HKL.out hkl
                          obtain ⟨i, hi6, e1, _, _⟩ := lg_at HLG.out hkL
                          obtain ⟨c1, zf⟩ := HW.out.1.at hi6
                          have HS := Lib.hid (show DueW w c g (clr f L (k + 1)) L (L.drop K) K (.slice (some ⟨b, 0, none⟩) K cd) (wr.setCell ⟨g, i, none⟩ (.int .i64 (-1))) from by
                            have h := HW.out.set i (-1)
                            have e : clr f L (k + 1) = upd (clr f L k) i (-1) := by
                              show upd (clr f L k) (L.getD k (0, 0)).1.toNat (-1) = _
                              rw [List.getD_eq_getElem?_getD, List.getElem?_eq_getElem hkL]
                              show upd (clr f L k) L[k].1.toNat (-1) = _
                              rw [e1]
                              rfl
                            rw [e]
                            exact h)
                          rw [e1] at c0
                          generalize clr f L k i = old at *
                          have hi6' : (i : Int) < 64 := by omega
                          have hi0' : (0 : Int) ≤ (i : Int) := by omega
                          clear e1
                          go_wp2_with fail
                          go_roundw
                          case rel => exact ⟨k + 1, by go_num, by omega, HS⟩
                          case measure => simp [intOf]; omega
                        · have hg3 : decide (k < K) = false := decide_eq_false hkl
                          obtain rfl : k = K := by omega
                          have HE := Lib.hid (show OnceW w c g (clr f L k) (L.drop k) wr ∧ Lg (clr f L k) (L.drop k) ∧ Cal.Good (L.drop k) from ⟨HW.out.1, lg_due HGD.out HLG.out HKL.out, drop_good HGD.out k⟩)
                          have hdl : (L.drop k).length ≤ 200 := by rw [List.length_drop]; omega
                          have HNX := Lib.hid (show Calls Try.prog 7 #[.pointer (some ⟨c, 0, none⟩)] wr (fun e w' => e = .returned (.tuple #[.int .i64 (nxV (L.drop k)), .bool (nxB (L.drop k))]) ∧ OnceW w c g (clr f L k) (L.drop k) w') from by
                            obtain ⟨⟨S, h1, _⟩, _⟩ := HE.out.1
                            exact (cnext_any h1 HE.out.2.2).mono fun e w' ⟨he, hb⟩ => ⟨he, HE.out.1.under hb⟩)
                          have HNT := Lib.hid (show nxB (L.drop k) = false ∨ (T : Int) < nxV (L.drop k) from by
                            have h := HDD.out
                            cases hd : L.drop k with
                            | nil => exact .inl rfl
                            | cons x r => exact .inr (h x (by rw [hd]; simp)))
                          have HRR := Lib.hid (show ∀ w', OnceW w c g (clr f L k) (L.drop k) w' → OnceW w c g (clr f L k) (L.drop k) w' ∧ Lg (clr f L k) (L.drop k) ∧ Cal.Good (L.drop k) ∧ ∀ x ∈ L.drop k, ((T + s : Nat) : Int) - (s : Int) < x.2 from fun w' h => ⟨h, HE.out.2.1, HE.out.2.2, fun x hx => by have := HDD.out x hx; omega⟩)
                          generalize clr f L k = f2 at *
                          generalize L.drop k = L2 at *
                          generalize nxV L2 = y at *
                          generalize nxB L2 = z at *
                          clear hkl HW hk HE HDT HDD HLG HGD HKL
                          go_wp2_with fail
                          refine HNX.out.mono ?_
                          rintro e w5 ⟨rfl, h5⟩
                          have H5 := Lib.hid (HRR.out w5 h5)
                          clear h5 HRR HNX
                          rcases HNT.out with h1 | h1
                          · subst h1
                            clear HNT
                            go_wp2_with fail
                            go_roundw
                            case rel => exact ⟨T + s, f2, L2, congrArg (Value.int .i64) (by omega), by omega, hdl, H5⟩
                            case measure => simp [intOf]; omega
                          · have z1 : decide (y ≤ (T : Int)) = false := decide_eq_false (by omega)
                            clear HNT
                            cases z
                            · go_wp2_with fail
                              go_roundw
                              case rel => exact ⟨T + s, f2, L2, congrArg (Value.int .i64) (by omega), by omega, hdl, H5⟩
                              case measure => simp [intOf]; omega
                            · go_wp2_with fail
                              go_roundw
                              case rel => exact ⟨T + s, f2, L2, congrArg (Value.int .i64) (by omega), by omega, hdl, H5⟩
                              case measure => simp [intOf]; omega
            · have hg3 : decide ((T : Int) < 1000) = false := decide_eq_false (by omega)
              obtain ⟨rfl, hneg⟩ := lg_none HR.out.2.1 (t := (T : Int) - (s : Int)) (by omega) HR.out.2.2.2
              have HW := Lib.hid HR.out.1
              have HNE := Lib.hid hneg
              clear hlt HR hneg hL2
              go_wp2_with fail
              go_loopw [19] (fun iv wr => ∃ k : Nat, iv = .int .i64 k ∧ k ≤ 64 ∧ Hid (OnceW w c g f [] wr)) (fun iv _ => 64 - (intOf iv).toNat)
              case atStart => exact ⟨0, rfl, Nat.zero_le _, HW⟩
              case round =>
                obtain ⟨k, rfl, hk, HWk⟩ := hrel
                clear HW
                by_cases hkl : k < 64
                · have hkl' : (k : Int) < 64 := by omega
                  obtain ⟨c0, _⟩ := HWk.out.at hkl
                  have hn := HNE.out k hkl
                  have z1 : decide (0 ≤ f k) = false := decide_eq_false (by omega)
                  generalize f k = y at *
                  go_wp2_with fail
                  go_roundw
                  case rel => exact ⟨k + 1, by go_num, by omega, HWk⟩
                  case measure => simp [intOf]; omega
                · have hg4 : decide ((k : Int) < 64) = false := decide_eq_false (by omega)
                  have HLN := Lib.hid (show Calls Try.prog 8 #[.pointer (some ⟨c, 0, none⟩)] wr (fun e w' => e = .returned (.int .i64 0) ∧ wr = w') from by
                    obtain ⟨⟨S, h1, _⟩, _⟩ := HWk.out
                    exact clen_any h1)
                  have HB := Lib.hid HWk.out.below
                  have HSU := Lib.hid (sure_any wr)
                  clear hkl HWk hk
                  go_wp2_with fail
                  refine HLN.out.mono ?_
                  rintro e w6 ⟨rfl, rfl⟩
                  go_wp2_with fail
                  refine HSU.out.mono ?_
                  rintro e w7 ⟨rfl, hb7⟩
                  have HB7 := Lib.hid (bnext HB.out hb7)
                  clear hb7
                  go_wp2_with fail
                  go_ret
                  exact ⟨rfl, HB7.out⟩
end Go.Proofs.Ytknhjbfhkfngeaa
