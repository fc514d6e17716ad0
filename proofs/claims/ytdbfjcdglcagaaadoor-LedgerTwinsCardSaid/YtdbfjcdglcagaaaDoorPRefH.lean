/- The document's own book: Even; no condition but those that each row names. -/
import Derived.Test.YtdbfjcdglcagaaaDoorPRefD
import Derived.Test.YtdbfjcdglcagaaaDoorPEven
namespace Go.Proofs.YtdbfjcdglcagaaaDoor
open Go.RowKit Bk

theorem sumP_app (h : Int) : ∀ (A B : List Ln), sumP (A ++ B) h = sumP A h + sumP B h
  | [], B => by simp [sumP]
  | x :: r, B => by
    show (if x.p = h then x.a.g else 0) + sumP (r ++ B) h = (if x.p = h then x.a.g else 0) + sumP r h + sumP B h
    rw [sumP_app h r B]; omega
theorem sumP_take {L : List Ln} {h : Int} {k : Nat} (hk : k < L.length) : sumP (L.take (k + 1)) h = sumP (L.take k) h + (if L[k].p = h then L[k].a.g else 0) := by
  rw [List.take_add_one, List.getElem?_eq_getElem hk, sumP_app]
  simp [sumP]
set_option maxHeartbeats 2000000 in
set_option maxRecDepth 100000 in
theorem reven (w : World) (v : Value) (L : List Ln) (hL : Lns w v L) (h4 : L.length ≤ 4000) :
    Calls Tryd.prog 14 #[v] w fun e w' => e = .returned (.bool (evenB L)) ∧ Below w.heap.size w w' := by
  obtain ⟨p, cap, rfl, hlc⟩ := own_small hL
  have HBC := Lib.hid (show ∀ W, Below w.heap.size w W → ∀ (k : Nat) (hk : k < L.length), ∃ g, p = some ⟨g, 0, none⟩ ∧ W.cell? ⟨g, k * 14, none⟩ = some (.int .i64 L[k].h) ∧ W.cell? ⟨g, k * 14 + 1, none⟩ = some (.int .i64 L[k].p) ∧ (W.cell? ⟨g, k * 14 + 2, none⟩ = some (.int .i64 L[k].a.g) ∧ W.cell? ⟨g, k * 14 + 3, none⟩ = some (.int .i64 L[k].a.o) ∧ W.cell? ⟨g, k * 14 + 4, none⟩ = some (.int .i64 L[k].a.l) ∧ W.cell? ⟨g, k * 14 + 5, none⟩ = some (.int .i64 L[k].a.d) ∧ W.cell? ⟨g, k * 14 + 6, none⟩ = some (.int .i64 L[k].a.c) ∧ W.cell? ⟨g, k * 14 + 7, none⟩ = some (.int .i64 L[k].a.t)) ∧ W.cell? ⟨g, k * 14 + 8, none⟩ = some (.int .i64 L[k].c.g) ∧ W.cell? ⟨g, k * 14 + 9, none⟩ = some (.int .i64 L[k].c.o) from fun W hb k hk => by
    obtain ⟨g, cap', e, _, _⟩ := own_block2 hL (by omega)
    cases e
    obtain ⟨c0, c1, c2, c3, c4, c5, c6, c7, c8, c9, _⟩ := own_at14 (hL.below hb) rfl k hk
    exact ⟨g, rfl, c0, c1, ⟨c2, c3, c4, c5, c6, c7⟩, c8, c9⟩)
  clear hL
  go_enter Tryd.func14, Tryd.ntmps14
  go_wp2_with fail
  go_loopw [3] (fun iv wr => ∃ i : Nat, iv = .int .i64 i ∧ i ≤ L.length ∧ Hid (∀ j (hj : j < L.length), j < i → evenX L L[j] = true) ∧ Hid (Below w.heap.size w wr)) (fun iv _ => L.length - (intOf iv).toNat)
  case atStart => exact ⟨0, rfl, Nat.zero_le _, Lib.hid (fun j _ hj => absurd hj (Nat.not_lt_zero _)), Lib.hid (Below.refl _ _)⟩
  case round =>
    obtain ⟨i, rfl, hi, HX, HB⟩ := hrel
    by_cases hil : i < L.length
    · have hil' : (i : Int) < (L.length : Int) := by omega
      obtain ⟨g0, rfl, hcells⟩ := HBC.out wr HB.out i hil
      clear hcells
      have HBCi := HBC.out
      have HEV := Lib.hid (show evenX L L[i] = decide (wrap64 (L[i].a.o + L[i].c.g + sumP (L.take L.length) L[i].h) = L[i].a.g ∧ ¬ L[i].a.l > L[i].a.o ∧ L[i].c.o = L[i].c.g) from by unfold evenX; rw [List.take_length])
      have HNO := Lib.hid (show evenX L L[i] = false → evenB L = false from fun h => by
        unfold evenB
        rw [List.all_eq_false]
        exact ⟨L[i], List.getElem_mem hil, by rw [h]; decide⟩)
      have HYES := Lib.hid (show evenX L L[i] = true → ∀ j (hj : j < L.length), j < i + 1 → evenX L L[j] = true from fun he j hj hji => by
        by_cases e : j = i
        · subst e; exact he
        · exact HX.out j hj (by omega))
      have HCI := Lib.hid (fun W (hb : Below w.heap.size w W) => HBC.out W hb i hil)
      have HCK := Lib.hid (fun W (hb : Below w.heap.size w W) (k : Nat) (hk : k < L.length) => HBC.out W hb k hk)
      clear HBC HBCi
      generalize evenX L L[i] = ev at HEV HNO HYES
      generalize L[i] = x at HEV HCI
      obtain ⟨xh, xp, ⟨xg, xo, xl, xd, xc, xt⟩, ⟨kg, ko, kl, kd, kc, kt⟩⟩ := x
      dsimp only at HEV HCI
      obtain ⟨W1, hW1⟩ : ∃ W1, W1 = wr.alloc (.cells #[.int .i64 xg, .int .i64 xo, .int .i64 xl, .int .i64 xd, .int .i64 xc, .int .i64 xt] 34) := ⟨_, rfl⟩
      have HBW := Lib.hid (show Below w.heap.size w W1 from by rw [hW1]; exact below_alloc HB.out _)
      have HA := Lib.hid (show Has W1 wr.heap.size (.cells #[.int .i64 xg, .int .i64 xo, .int .i64 xl, .int .i64 xd, .int .i64 xc, .int .i64 xt] 34) from by rw [hW1]; exact has_new _ _ _ rfl)
      have hz1 : wr.heap.size < W1.heap.size := has_lt HA.out
      have HW1 := Lib.hid hW1
      clear hW1
      obtain ⟨g', e', c0, c1, ⟨c2, c3, c4, c5, c6, c7⟩, c8, c9⟩ := HCI.out wr HB.out
      cases e'
      go_wp2_with fail
      rw [← HW1.out]
      clear c0 c1 c2 c3 c4 c5 c6 c7 c8 c9
      obtain ⟨g', e', c0, c1, ⟨c2, c3, c4, c5, c6, c7⟩, c8, c9⟩ := HCI.out W1 HBW.out
      cases e'
      obtain ⟨a0, a1, a2, a3, a4, a5⟩ := acc6 (a := ⟨xg, xo, xl, xd, xc, xt⟩) HA.out
      dsimp only at a0 a1 a2 a3 a4 a5
      go_quiet (fail)
      have HB2 := Lib.hid (below_drewN (Below.refl W1.heap.size W1) nq)
      generalize W1.drewN nq = wq at HB2 ⊢
      clear c0 c1 c2 c3 c4 c5 c6 c7 c8 c9 a0 a1 a2 a3 a4 a5
      go_wp2_with fail
      go_loopw [5, 6] (fun sv kv wr2 => ∃ k : Nat, kv = .int .i64 k ∧ k ≤ L.length ∧ sv = .int .i64 (wrap64 (xo + kg + sumP (L.take k) xh)) ∧ Hid (Below W1.heap.size W1 wr2)) (fun _ kv _ => L.length - (intOf kv).toNat)
      case atStart => exact ⟨0, rfl, Nat.zero_le _, by simp [sumP], HB2⟩
      case round =>
        obtain ⟨k, rfl, hk, rfl, HB2'⟩ := hrel
        clear HB2
        have HB2 := HB2'
        clear HB2'
        obtain ⟨g', e', c0, c1, ⟨c2, c3, c4, c5, c6, c7⟩, c8, c9⟩ := HCI.out _ (bnext HBW.out HB2.out)
        cases e'
        by_cases hkl : k < L.length
        · have hkl' : (k : Int) < (L.length : Int) := by omega
          obtain ⟨g', e', hd0, d1, ⟨d2, hd2⟩, hd3⟩ := HCK.out _ (bnext HBW.out HB2.out) k hkl
          cases e'
          clear hd0 hd2 hd3
          have HT := Lib.hid (sumP_take (h := xh) hkl)
          generalize L[k].p = lp at d1 HT
          generalize L[k].a.g = lg at d2 HT
          generalize sumP (L.take k) xh = sp at HT ⊢
          by_cases e : lp = xh
          · subst e
            rw [if_pos rfl] at HT
            go_wp2_with fail
            go_quiet (fail)
            have HBq := Lib.hid (below_drewN HB2.out nq)
            go_wp2_with fail
            go_roundw
            case rel => exact ⟨k + 1, by go_num, by omega, by rw [HT.out, wrap_wrap]; congr 2; omega, HBq⟩
            case measure => simp [intOf]; omega
          · rw [if_neg e] at HT
            have z : (lp == xh) = false := by simpa using e
            go_wp2_with fail
            go_quiet (fail)
            have HBq := Lib.hid (below_drewN HB2.out nq)
            go_wp2_with fail
            go_roundw
            case rel => exact ⟨k + 1, by go_num, by omega, by rw [HT.out, Int.add_zero], HBq⟩
            case measure => simp [intOf]; omega
        · have hd : decide (k < L.length) = false := decide_eq_false hkl
          have e : k = L.length := by omega
          subst e
          clear hkl hk
          obtain ⟨a0, a1, a2, a3, a4, a5⟩ := acc6 (a := ⟨xg, xo, xl, xd, xc, xt⟩) (has_below HA.out HB2.out)
          dsimp only at a0 a1 a2 a3 a4 a5
          generalize wrap64 (xo + kg + sumP (L.take L.length) xh) = s at HEV ⊢
          by_cases h1 : xg = s
          · subst h1
            by_cases h2 : xl > xo
            · have z2 : decide (xo < xl) = true := decide_eq_true h2
              have HR := Lib.hid (HNO.out (by rw [HEV.out]; exact decide_eq_false (fun hh => absurd hh.2.1 (by omega))))
              clear HEV HNO HYES
              go_wp2_with fail
              go_quiet (fail)
              have HBq := Lib.hid (bnext HBW.out (below_drewN HB2.out nq))
              go_wp2_with fail
              go_ret
              exact ⟨ret_bool HR.out.symm, HBq.out⟩
            · have z2 : decide (xo < xl) = false := decide_eq_false h2
              by_cases h3 : ko = kg
              · subst h3
                have HR := Lib.hid (HYES.out (by rw [HEV.out]; exact decide_eq_true ⟨rfl, by omega, rfl⟩))
                clear HEV HNO HYES
                go_wp2_with fail
                go_quiet (fail)
                have HBq := Lib.hid (bnext HBW.out (below_drewN HB2.out nq))
                go_wp2_with fail
                go_roundw
                case rel => exact ⟨i + 1, by go_num, by omega, HR, HBq⟩
                case measure => simp [intOf]; omega
              · have z3 : (ko == kg) = false := by simpa using h3
                have z4 : (ko != kg) = true := by simpa using h3
                have HR := Lib.hid (HNO.out (by rw [HEV.out]; exact decide_eq_false (fun hh => h3 hh.2.2)))
                clear HEV HNO HYES h3
                go_wp2_with fail
                go_quiet (fail)
                have HBq := Lib.hid (bnext HBW.out (below_drewN HB2.out nq))
                go_wp2_with fail
                go_ret
                exact ⟨ret_bool HR.out.symm, HBq.out⟩
          · have z1 : (s == xg) = false := by simpa using fun e => h1 e.symm
            have z0 : (s != xg) = true := by simpa using fun e => h1 e.symm
            have HR := Lib.hid (HNO.out (by rw [HEV.out]; exact decide_eq_false (fun hh => h1 hh.1.symm)))
            clear HEV HNO HYES h1
            go_wp2_with fail
            go_quiet (fail)
            have HBq := Lib.hid (bnext HBW.out (below_drewN HB2.out nq))
            go_wp2_with fail
            go_ret
            exact ⟨ret_bool HR.out.symm, HBq.out⟩
    · have hd : decide (i < L.length) = false := decide_eq_false hil
      have HR := Lib.hid (show evenB L = true from List.all_eq_true.2 fun x hx => by
        obtain ⟨j, hj, rfl⟩ := List.getElem_of_mem hx
        exact HX.out j hj (by omega))
      clear HX
      go_wp2_with fail
      go_ret
      exact ⟨ret_bool HR.out.symm, HB.out⟩
end Go.Proofs.YtdbfjcdglcagaaaDoor
