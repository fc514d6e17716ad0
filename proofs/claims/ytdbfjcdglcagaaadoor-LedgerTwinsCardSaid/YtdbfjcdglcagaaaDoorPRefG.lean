/- The document's own book: Close; no condition but those that each row names. -/
import Derived.Test.YtdbfjcdglcagaaaDoorPRefF
namespace Go.Proofs.YtdbfjcdglcagaaaDoor
open Go.RowKit Bk

theorem root_k {L : List Ln} (hI : Inv L) {k : Nat} (hk : k < L.length) : L[k].p = 0 ↔ k = 0 := by
  obtain ⟨r, rest, rfl, hp, hr⟩ := hI.root
  cases k with
  | zero => exact ⟨fun _ => rfl, fun _ => hp⟩
  | succ k => exact ⟨fun e => absurd e (hr _ (by simp)), fun e => by omega⟩
set_option maxHeartbeats 2000000 in
set_option maxRecDepth 100000 in
theorem rclose_none (w : World) (v : Value) (L : List Ln) (hL : Lns w v L) (h4 : L.length ≤ 4000) (h : Int) (hx : plc L h = none) :
    Calls Tryd.prog 26 #[v, .int .i64 h] w (RPost w L 20) := by
  have HL := Lib.hid hL
  have HP := Lib.hid (show Calls Tryd.prog 30 #[v, .int .i64 h] w fun e w' => e = .returned (.int .i64 (-1)) ∧ w = w' from by have := rplace w v L hL (by omega) h; rw [hx] at this; exact this)
  clear hL hx
  go_enter Tryd.func26, Tryd.ntmps26
  go_wp2_with fail
  refine HP.out.mono ?_
  rintro e w1 ⟨rfl, rfl⟩
  go_wp2_with fail
  go_ret2
  exact rpost_same HL.out (Below.refl _ _)
set_option maxHeartbeats 2000000 in
set_option maxRecDepth 100000 in
theorem rclose_root (w : World) (v : Value) (L : List Ln) (hL : Lns w v L) (h4 : L.length ≤ 4000) (h : Int) (hx : plc L h = some 0) :
    Calls Tryd.prog 26 #[v, .int .i64 h] w (RPost w L 91) := by
  have HL := Lib.hid hL
  have HP := Lib.hid (show Calls Tryd.prog 30 #[v, .int .i64 h] w fun e w' => e = .returned (.int .i64 0) ∧ w = w' from by have := rplace w v L hL (by omega) h; rw [hx] at this; exact this)
  clear hL hx
  go_enter Tryd.func26, Tryd.ntmps26
  go_wp2_with fail
  refine HP.out.mono ?_
  rintro e w1 ⟨rfl, rfl⟩
  go_wp2_with fail
  go_ret2
  exact rpost_same HL.out (Below.refl _ _)
theorem nd_inj {L : List Ln} (hn : Nd L) {i k : Nat} (hi : i < L.length) (hk : k < L.length) (e : L[i].h = L[k].h) : i = k := by
  rcases Nat.lt_trichotomy i k with h' | h' | h'
  · exact absurd e (by have := List.pairwise_iff_getElem.1 hn i k (by simpa using hi) (by simpa using hk) h'; simpa using this)
  · exact h'
  · exact absurd e.symm (by have := List.pairwise_iff_getElem.1 hn k i (by simpa using hk) (by simpa using hi) h'; simpa using this)
theorem src_one14g (w : World) (x : Ln) (t : TypeId) (g : Nat) (hg : g = w.heap.size) : SrcL (w.alloc (.cells (c14 x).toArray t)) (.slice (some ⟨g, 0, none⟩) 1 1) 1 (c14 x) := by
  subst hg; exact src_one14 w x t
/-- A round of the copy. -/
theorem del_take {M : List Ln} {h : Int} {i : Nat} (hi : i < M.length) : delB (M.take (i + 1)) h = delB (M.take i) h ++ (if M[i].h = h then [] else [M[i]]) := by
  unfold delB
  rw [List.take_add_one, List.getElem?_eq_getElem hi, List.filter_append]
  congr 1
  by_cases e : M[i].h = h
  · simp [e]
  · simp [e]
set_option maxHeartbeats 2000000 in
set_option maxRecDepth 100000 in
theorem rclose_ok (w : World) (v : Value) (L : List Ln) (hL : Lns w v L) (h4 : L.length ≤ 4000) (hI : Inv L) (h : Int) (k : Nat) (hx : plc L h = some k) (hk0 : k ≠ 0) :
    Calls Tryd.prog 26 #[v, .int .i64 h] w (RPost w (closeB L h) (closeE L h)) := by
  have HL := Lib.hid hL
  have HI := Lib.hid hI
  have HX := Lib.hid hx
  have HP := Lib.hid (fun W (hb : Below w.heap.size w W) (id : Int) => rplace W v L (hL.below hb) (by omega) id)
  have HPk := Lib.hid (show Calls Tryd.prog 30 #[v, .int .i64 h] w fun e w' => e = .returned (.int .i64 (k : Nat)) ∧ w = w' from by have := rplace w v L hL (by omega) h; rw [hx] at this; exact this)
  obtain ⟨hkl, hkh, hkg, _⟩ := plc_some hx
  obtain ⟨g0, cap, rfl, hlc, _, hg0⟩ := own_block2 hL (by omega)
  have HBC := Lib.hid (fun W (hb : Below w.heap.size w W) (k : Nat) (hk : k < L.length) => own_at14 (hL.below hb) rfl k hk)
  have hkl' : (k : Int) < (L.length : Int) := by omega
  have hi0 : ¬ (k : Int) < 0 := by omega
  have hz0 : ((k : Int) == 0) = false := by simp; omega
  have HKG := Lib.hid hkg
  have HKH := Lib.hid hkh
  have HPN := Lib.hid (show L[k].p ≠ 0 from fun e => hk0 ((root_k hI hkl).1 e))
  clear hL hI hx hk0 hkg hkh
  go_enter Tryd.func26, Tryd.ntmps26
  go_wp2_with fail
  refine HPk.out.mono ?_
  rintro e w1 ⟨rfl, rfl⟩
  go_wp2_with fail
  have HCE := Lib.hid (show closeE L h = if belowB L h then 1 else 0 from by unfold closeE; rw [HKG.out]; show (if L[k].p = 0 then (91 : Int) else _) = _; rw [if_neg HPN.out])
  have hr := Below.refl w.heap.size w
  go_loop [7] (fun iv => ∃ i : Nat, iv = .int .i64 i ∧ i ≤ L.length ∧ Hid (∀ j (hj : j < L.length), j < i → L[j].p ≠ h)) (fun iv => L.length - (intOf iv).toNat)
  case atStart => exact ⟨0, rfl, Nat.zero_le _, Lib.hid (fun j _ hj => absurd hj (Nat.not_lt_zero _))⟩
  case round =>
    obtain ⟨i, rfl, hi, HQ⟩ := hrel
    by_cases hil : i < L.length
    · have hil' : (i : Int) < (L.length : Int) := by omega
      have c1 := (HBC.out w hr i hil).2.1
      have HN := Lib.hid (show L[i].p ≠ h → ∀ j (hj : j < L.length), j < i + 1 → L[j].p ≠ h from fun hs j hj hji => by
        by_cases e : j = i
        · subst e; exact hs
        · exact HQ.out j hj (by omega))
      have HY := Lib.hid (show L[i].p = h → closeE L h = 1 ∧ closeB L h = L from fun e => by
        have hb : belowB L h = true := List.any_eq_true.2 ⟨L[i], List.getElem_mem hil, by simpa using e⟩
        have hE : closeE L h = 1 := by rw [HCE.out, hb]; rfl
        exact ⟨hE, if_neg (by rw [hE]; decide)⟩)
      generalize L[i].p = lp at c1 HN HY
      by_cases e : lp = h
      · have z : (lp == h) = true := by simpa using e
        have HR := Lib.hid (HY.out e)
        clear HN HY HQ e
        go_wp2_with fail
        go_ret2
        rw [HR.out.1, HR.out.2]
        exact rpost_same HL.out (Below.refl _ _)
      · have z : (lp == h) = false := by simpa using e
        have HR := Lib.hid (HN.out e)
        clear HN HY HQ e
        go_wp2_with fail
        go_round
        case rel => exact ⟨i + 1, by go_num, by omega, HR⟩
        case measure => simp [intOf]; omega
    · have hd : decide (i < L.length) = false := decide_eq_false hil
      have e : i = L.length := by omega
      subst e
      have HBL := Lib.hid (show belowB L h = false from by
        unfold belowB
        rw [List.any_eq_false]
        intro x hx
        obtain ⟨j, hj, rfl⟩ := List.getElem_of_mem hx
        simpa using HQ.out j hj hj)
      clear HQ hil hi
      obtain ⟨c0, c1, c2, c3, c4, c5, c6, c7, c8, c9, c10, c11, c12, c13⟩ := HBC.out w hr k hkl
      obtain ⟨x, hxe⟩ : ∃ x, x = L[k] := ⟨_, rfl⟩
      rw [← hxe] at c0 c1 c2 c3 c4 c5 c6 c7 c8 c9 c10 c11 c12 c13
      obtain ⟨yy, hyy⟩ := HI.out.up L[k] (List.getElem_mem hkl) HPN.out
      obtain ⟨up, hup⟩ := plc_of_get hyy
      have HPu := HP.out w hr L[k].p
      rw [hup, ← hxe] at HPu
      have HPu := Lib.hid (show Calls Tryd.prog 30 #[.slice (some ⟨g0, 0, none⟩) L.length cap, .int .i64 x.p] w fun e w' => e = .returned (.int .i64 (up : Nat)) ∧ w = w' from HPu)
      have HUP := Lib.hid hup
      have HXE := Lib.hid hxe
      clear hup hxe hyy
      go_wp2_with fail
      refine HPu.out.mono ?_
      rintro e w1 ⟨rfl, rfl⟩
      go_wp2_with fail
      have hd0 := hkl'
      go_cut [9, 10] (fun s9 s10 wx => ∃ gx gy : Nat, s9 = .pointer (some ⟨gx, 0, none⟩) ∧ s10 = .pointer (some ⟨gy, 0, none⟩) ∧ Hid (Has wx gx (.cells #[.int .i64 x.a.g, .int .i64 x.a.o, .int .i64 x.a.l, .int .i64 x.a.d, .int .i64 x.a.c, .int .i64 x.a.t] 34) ∧ Has wx gy (.cells #[.int .i64 x.c.g, .int .i64 x.c.o, .int .i64 x.c.l, .int .i64 x.c.d, .int .i64 x.c.c, .int .i64 x.c.t] 34) ∧ Below w.heap.size w wx))
      case first =>
        go_region
        all_goals
          go_wp2_with fail
          go_meet
        · exact ⟨_, _, rfl, rfl, Lib.hid ⟨has_drew (has_old (has_new w _ _ rfl) _), has_drew (has_new _ _ _ (by simp)), (by repeat (first | exact Below.refl _ _ | (with_reducible assumption) | refine Below.drew ?_ | (refine Below.alloc ?_ (by first | exact Nat.le_refl _ | omega | (simp; done) | (simp; omega)) _) | (refine Below.setCell ?_ (by first | omega | (simp; done) | (simp; omega)) _)))⟩⟩
        · exact ⟨_, _, rfl, rfl, Lib.hid ⟨has_drew (has_new _ _ _ (by simp)), has_drew (has_old (has_new w _ _ rfl) _), (by repeat (first | exact Below.refl _ _ | (with_reducible assumption) | refine Below.drew ?_ | (refine Below.alloc ?_ (by first | exact Nat.le_refl _ | omega | (simp; done) | (simp; omega)) _) | (refine Below.setCell ?_ (by first | omega | (simp; done) | (simp; omega)) _)))⟩⟩
      case rest =>
        obtain ⟨gx, gy, rfl, rfl, HXY⟩ := hcut
        obtain ⟨M, hM⟩ : ∃ M, M = updB L x.p (closeUp x) := ⟨_, rfl⟩
        have hML : M.length = L.length := by rw [hM, upd_len]
        have HCB := Lib.hid (show closeE L h = 0 ∧ closeB L h = delB M h from by
          have hE : closeE L h = 0 := by rw [HCE.out, HBL.out]; rfl
          refine ⟨hE, ?_⟩
          unfold closeB
          rw [if_pos hE, HKG.out, hM, HXE.out])
        have HMI := Lib.hid (show ∀ i (h1 : i < L.length) (h2 : i < M.length), M[i] = if i = up then closeUp x L[i] else L[i] from fun i h1 h2 => by
          obtain ⟨hul, hus⟩ := upd_set HI.out.nd (h := x.p) (k := up) (by rw [HXE.out]; exact HUP.out) (closeUp x)
          have : M[i] = (L.set up (closeUp x L[up]))[i]'(by simpa using h1) := by
            have e := hM.trans hus
            subst e
            rfl
          rw [this, List.getElem_set]
          by_cases e : up = i
          · subst e; simp
          · rw [if_neg e, if_neg (fun k => e k.symm)])
        have HIK := Lib.hid (show ∀ i (h1 : i < L.length), L[i].h = h ↔ i = k from fun i h1 => by
          constructor
          · intro e
            exact nd_inj HI.out.nd h1 hkl (e.trans HKH.out.symm)
          · rintro rfl; exact HKH.out)
        have HDL := Lib.hid (show ∀ i, (delB (M.take i) h).length ≤ L.length from fun i => by
          unfold delB
          refine Nat.le_trans (List.length_filter_le _ _) ?_
          rw [List.length_take, hML]
          exact Nat.min_le_right _ _)
        clear hM HCE HBL
        have hcc := hkl
        go_wp2_with fail
        go_loopw [11, 12] (fun cv iv wr => ∃ (i : Nat) (pp : Option Addr) (cp : Nat), iv = .int .i64 i ∧ i ≤ L.length ∧ cv = .slice pp (delB (M.take i) h).length cp ∧ Hid (wr.ownsRow wc.heap.size LT 14 (.slice pp (delB (M.take i) h).length cp) (delB (M.take i) h).length (lnL (delB (M.take i) h))) ∧ Hid (Below wc.heap.size wc wr)) (fun _ iv _ => L.length - (intOf iv).toNat)
        case atStart => exact ⟨0, none, 0, rfl, Nat.zero_le _, rfl, Lib.hid (World.ownsRow_nil _ _ _ _), Lib.hid (Below.refl _ _)⟩
        case round =>
          obtain ⟨i, pp, cp, rfl, hi, rfl, HO, HB⟩ := hrel
          by_cases hil : i < L.length
          · have hil' : (i : Int) < (L.length : Int) := by omega
            have hiM : i < M.length := by omega
            have hDl := HDL.out i
            obtain ⟨c0, c1, c2, c3, c4, c5, c6, c7, c8, c9, c10, c11, c12, c13⟩ := HBC.out wr (bnext HXY.out.2.2 HB.out) i hil
            obtain ⟨y, hye⟩ : ∃ y, y = L[i] := ⟨_, rfl⟩
            have hIK := HIK.out i hil
            have hMi := HMI.out i hil hiM
            rw [← hye] at c0 c1 c2 c3 c4 c5 c6 c7 c8 c9 c10 c11 c12 c13 hMi hIK
            obtain ⟨a0, a1, a2, a3, a4, a5⟩ := acc6 (a := x.a) (has_below HXY.out.1 HB.out)
            obtain ⟨k0, k1, k2, k3, k4, k5⟩ := acc6 (a := x.c) (has_below HXY.out.2.1 HB.out)
            have hgx : gx < wr.heap.size := has_lt (has_below HXY.out.1 HB.out)
            have hgy : gy < wr.heap.size := has_lt (has_below HXY.out.2.1 HB.out)
            clear hye
            by_cases hu : i = up
            · rw [if_pos hu] at hMi
              have zu : ((i : Int) == (up : Int)) = true := by simp; omega
              by_cases hik : i = k
              · have zk : ((i : Int) == (k : Int)) = true := by simp; omega
                have HB3 := Lib.hid (show Below wr.heap.size wr (wr.alloc (.cells #[.int .i64 (closeUp x y).h, .int .i64 (closeUp x y).p, .int .i64 (closeUp x y).a.g, .int .i64 (closeUp x y).a.o, .int .i64 (closeUp x y).a.l, .int .i64 (closeUp x y).a.d, .int .i64 (closeUp x y).a.c, .int .i64 (closeUp x y).a.t, .int .i64 (closeUp x y).c.g, .int .i64 (closeUp x y).c.o, .int .i64 (closeUp x y).c.l, .int .i64 (closeUp x y).c.d, .int .i64 (closeUp x y).c.c, .int .i64 (closeUp x y).c.t] LT)) from below_alloc (Below.refl _ _) _)
                have HO3 := Lib.hid (own_under HO.out HB3.out)
                have HB4 := Lib.hid (bnext HB.out HB3.out)
                have HD1 := Lib.hid (show delB (M.take (i + 1)) h = delB (M.take i) h from by rw [del_take hiM, hMi, if_pos (by first | exact hIK.2 hik | exact (show (closeUp x y).h = h from hIK.2 hik)), List.append_nil])
                clear HO HB3 hMi hIK hik HB hu
                go_wp2_with fail
                go_roundw
                case rel => exact ⟨i + 1, pp, cp, by go_num, by omega, by rw [HD1.out], by rw [HD1.out]; exact HO3, HB4⟩
                case measure => simp [intOf]; omega
              · have zk : ((i : Int) == (k : Int)) = false := by simp; omega
                have hne : ¬ (closeUp x y).h = h := fun e => hik (hIK.1 e)
                clear hIK hu
                have HB3 := Lib.hid (bnext (Below.refl wr.heap.size wr) (show Below wr.heap.size wr ((wr.alloc (.cells #[.int .i64 (closeUp x y).h, .int .i64 (closeUp x y).p, .int .i64 (closeUp x y).a.g, .int .i64 (closeUp x y).a.o, .int .i64 (closeUp x y).a.l, .int .i64 (closeUp x y).a.d, .int .i64 (closeUp x y).a.c, .int .i64 (closeUp x y).a.t, .int .i64 (closeUp x y).c.g, .int .i64 (closeUp x y).c.o, .int .i64 (closeUp x y).c.l, .int .i64 (closeUp x y).c.d, .int .i64 (closeUp x y).c.c, .int .i64 (closeUp x y).c.t] LT)).alloc (.cells #[.int .i64 (closeUp x y).h, .int .i64 (closeUp x y).p, .int .i64 (closeUp x y).a.g, .int .i64 (closeUp x y).a.o, .int .i64 (closeUp x y).a.l, .int .i64 (closeUp x y).a.d, .int .i64 (closeUp x y).a.c, .int .i64 (closeUp x y).a.t, .int .i64 (closeUp x y).c.g, .int .i64 (closeUp x y).c.o, .int .i64 (closeUp x y).c.l, .int .i64 (closeUp x y).c.d, .int .i64 (closeUp x y).c.c, .int .i64 (closeUp x y).c.t] LT)) from below_alloc (below_alloc (Below.refl _ _) _) _))
                have HO3 := Lib.hid (own_under HO.out HB3.out)
                have HB4 := Lib.hid (bnext HB.out HB3.out)
                have HD1 := Lib.hid (show delB (M.take (i + 1)) h = delB (M.take i) h ++ [closeUp x y] from by rw [del_take hiM, hMi, if_neg hne])
                obtain ⟨D', hD'⟩ : ∃ D', D' = delB (M.take (i + 1)) h := ⟨_, rfl⟩
                rw [← hD'] at HD1
                have HDE := Lib.hid hD'
                clear hD'
                generalize delB (M.take i) h = D at HO3 HD1 hDl
                clear HO HB3 hne hMi
                go_wp2_with (at_builtin; refine wpList_append_lns rfl _ _ rfl wc.heap.size (.slice pp D.length cp) D.length (lnL D) rfl HO3.out _ 1 (c14 (closeUp x y)) rfl (src_one14g (wr.alloc (.cells #[.int .i64 (closeUp x y).h, .int .i64 (closeUp x y).p, .int .i64 (closeUp x y).a.g, .int .i64 (closeUp x y).a.o, .int .i64 (closeUp x y).a.l, .int .i64 (closeUp x y).a.d, .int .i64 (closeUp x y).a.c, .int .i64 (closeUp x y).a.t, .int .i64 (closeUp x y).c.g, .int .i64 (closeUp x y).c.o, .int .i64 (closeUp x y).c.l, .int .i64 (closeUp x y).c.d, .int .i64 (closeUp x y).c.c, .int .i64 (closeUp x y).c.t] LT)) (closeUp x y) _ _ (by simp)) (lnL_one [closeUp x y]) (by omega) HB4.out.size ?_)
                intro p2 cp2 w2 ho2 hg2 ha2
                have hb2 := Lib.hid (HB4.out.grown hg2 HB4.out.size (fun kk e => by
                  obtain ⟨_, h2⟩ := HO3.out
                  rcases h2 with ⟨h2, _⟩ | ⟨g, cap, cur, e1, hg, _⟩
                  · rw [h2] at e; simp [Value.ownBlock] at e
                  · rw [e1] at e; simp [Value.ownBlock] at e; omega))
                have HO4 := Lib.hid (show w2.ownsRow wc.heap.size LT 14 (.slice p2 D'.length cp2) D'.length (lnL D') from by
                  rw [HD1.out, lnL_append, List.length_append]
                  exact ho2)
                have hlen : D.length + 1 = D'.length := by rw [HD1.out, List.length_append]; rfl
                clear ho2 hg2 ha2
                go_wp2_with fail
                rw [hlen]
                go_roundw
                case rel => exact ⟨i + 1, p2, cp2, by go_num, by omega, by rw [← HDE.out], by rw [← HDE.out]; exact HO4, hb2⟩
                case measure => simp [intOf]; omega
            · rw [if_neg hu] at hMi
              have zu : ((i : Int) == (up : Int)) = false := by simp; omega
              by_cases hik : i = k
              · have zk : ((i : Int) == (k : Int)) = true := by simp; omega
                have HB3 := Lib.hid (show Below wr.heap.size wr (wr.alloc (.cells #[.int .i64 y.h, .int .i64 y.p, .int .i64 y.a.g, .int .i64 y.a.o, .int .i64 y.a.l, .int .i64 y.a.d, .int .i64 y.a.c, .int .i64 y.a.t, .int .i64 y.c.g, .int .i64 y.c.o, .int .i64 y.c.l, .int .i64 y.c.d, .int .i64 y.c.c, .int .i64 y.c.t] LT)) from below_alloc (Below.refl _ _) _)
                have HO3 := Lib.hid (own_under HO.out HB3.out)
                have HB4 := Lib.hid (bnext HB.out HB3.out)
                have HD1 := Lib.hid (show delB (M.take (i + 1)) h = delB (M.take i) h from by rw [del_take hiM, hMi, if_pos (by first | exact hIK.2 hik | exact (show (closeUp x y).h = h from hIK.2 hik)), List.append_nil])
                clear HO HB3 hMi hIK hik HB
                go_wp2_with fail
                go_roundw
                case rel => exact ⟨i + 1, pp, cp, by go_num, by omega, by rw [HD1.out], by rw [HD1.out]; exact HO3, HB4⟩
                case measure => simp [intOf]; omega
              · have zk : ((i : Int) == (k : Int)) = false := by simp; omega
                have hne : ¬ y.h = h := fun e => hik (hIK.1 e)
                clear hIK
                have HB3 := Lib.hid (bnext (Below.refl wr.heap.size wr) (show Below wr.heap.size wr ((wr.alloc (.cells #[.int .i64 y.h, .int .i64 y.p, .int .i64 y.a.g, .int .i64 y.a.o, .int .i64 y.a.l, .int .i64 y.a.d, .int .i64 y.a.c, .int .i64 y.a.t, .int .i64 y.c.g, .int .i64 y.c.o, .int .i64 y.c.l, .int .i64 y.c.d, .int .i64 y.c.c, .int .i64 y.c.t] LT)).alloc (.cells #[.int .i64 y.h, .int .i64 y.p, .int .i64 y.a.g, .int .i64 y.a.o, .int .i64 y.a.l, .int .i64 y.a.d, .int .i64 y.a.c, .int .i64 y.a.t, .int .i64 y.c.g, .int .i64 y.c.o, .int .i64 y.c.l, .int .i64 y.c.d, .int .i64 y.c.c, .int .i64 y.c.t] LT)) from below_alloc (below_alloc (Below.refl _ _) _) _))
                have HO3 := Lib.hid (own_under HO.out HB3.out)
                have HB4 := Lib.hid (bnext HB.out HB3.out)
                have HD1 := Lib.hid (show delB (M.take (i + 1)) h = delB (M.take i) h ++ [y] from by rw [del_take hiM, hMi, if_neg hne])
                obtain ⟨D', hD'⟩ : ∃ D', D' = delB (M.take (i + 1)) h := ⟨_, rfl⟩
                rw [← hD'] at HD1
                have HDE := Lib.hid hD'
                clear hD'
                generalize delB (M.take i) h = D at HO3 HD1 hDl
                clear HO HB3 hne hMi
                go_wp2_with (at_builtin; refine wpList_append_lns rfl _ _ rfl wc.heap.size (.slice pp D.length cp) D.length (lnL D) rfl HO3.out _ 1 (c14 (y)) rfl (src_one14g (wr.alloc (.cells #[.int .i64 y.h, .int .i64 y.p, .int .i64 y.a.g, .int .i64 y.a.o, .int .i64 y.a.l, .int .i64 y.a.d, .int .i64 y.a.c, .int .i64 y.a.t, .int .i64 y.c.g, .int .i64 y.c.o, .int .i64 y.c.l, .int .i64 y.c.d, .int .i64 y.c.c, .int .i64 y.c.t] LT)) (y) _ _ (by simp)) (lnL_one [y]) (by omega) HB4.out.size ?_)
                intro p2 cp2 w2 ho2 hg2 ha2
                have hb2 := Lib.hid (HB4.out.grown hg2 HB4.out.size (fun kk e => by
                  obtain ⟨_, h2⟩ := HO3.out
                  rcases h2 with ⟨h2, _⟩ | ⟨g, cap, cur, e1, hg, _⟩
                  · rw [h2] at e; simp [Value.ownBlock] at e
                  · rw [e1] at e; simp [Value.ownBlock] at e; omega))
                have HO4 := Lib.hid (show w2.ownsRow wc.heap.size LT 14 (.slice p2 D'.length cp2) D'.length (lnL D') from by
                  rw [HD1.out, lnL_append, List.length_append]
                  exact ho2)
                have hlen : D.length + 1 = D'.length := by rw [HD1.out, List.length_append]; rfl
                clear ho2 hg2 ha2
                go_wp2_with fail
                rw [hlen]
                go_roundw
                case rel => exact ⟨i + 1, p2, cp2, by go_num, by omega, by rw [← HDE.out], by rw [← HDE.out]; exact HO4, hb2⟩
                case measure => simp [intOf]; omega
          · have hd : decide (i < L.length) = false := decide_eq_false hil
            have e : i = L.length := by omega
            subst e
            have HDE := Lib.hid (show delB (M.take L.length) h = delB M h from by rw [List.take_of_length_le (by omega)])
            rw [HDE.out] at HO
            rw [HDE.out]
            go_wp2_with fail
            go_ret2
            rw [HCB.out.1, HCB.out.2]
            exact ⟨_, rfl, own_base2 HO.out (Nat.zero_le _), bnext HXY.out.2.2 HB.out⟩
theorem rclose (w : World) (v : Value) (L : List Ln) (hL : Lns w v L) (h4 : L.length ≤ 4000) (hI : Inv L) (h : Int) :
    Calls Tryd.prog 26 #[v, .int .i64 h] w (RPost w (closeB L h) (closeE L h)) := by
  cases hx : plc L h with
  | none =>
    have hE : closeE L h = 20 := by unfold closeE; rw [(plc_none hx).1]
    rw [show closeB L h = L from if_neg (by rw [hE]; decide), hE]
    exact rclose_none w v L hL h4 h hx
  | some k =>
    by_cases hk : k = 0
    · subst hk
      obtain ⟨h1, _, hg, _⟩ := plc_some hx
      have hE : closeE L h = 91 := by unfold closeE; rw [hg]; exact if_pos ((root_k hI h1).2 rfl)
      rw [show closeB L h = L from if_neg (by rw [hE]; decide), hE]
      exact rclose_root w v L hL h4 h hx
    · exact rclose_ok w v L hL h4 hI h k hx hk
end Go.Proofs.YtdbfjcdglcagaaaDoor
