/- Feasible: the program's and the document's, and the document's Demand whatever the stretch is; no condition but those that each row names. -/
import Derived.Test.YtfahpjilgdlhiaaWDemB
namespace Go.Proofs.Ytfahpjilgdlhiaa
open Go.RowKit Edf

set_option maxHeartbeats 1000000 in
set_option maxRecDepth 100000 in
theorem rdemand_any (w : World) (v : Value) (n : Nat) (f : Nat → Tri) (h : Tris w v n f) (a b : Int) : Calls Try.prog 27 #[v, .int .i64 a, .int .i64 b] w (DPost w (dV n f a b) (.int .i64 (dE n f a b))) := by
  by_cases hT : isT a ∧ isT b
  · have HE := Lib.hid (show dE n f a b = vE n f from if_pos hT)
    obtain ⟨⟨ha, ha2⟩, ⟨hb, hb2⟩⟩ := hT
    by_cases h0 : vE n f = 0
    · have hA := Int.toNat_of_nonneg ha
      have hBb := Int.toNat_of_nonneg hb
      have := rdemand_ok w v n f h h0 a.toNat b.toNat (by omega) (by omega)
      rw [hA, hBb] at this
      have e : dV n f a b = (demN (itI n f) a.toNat b.toNat n : Nat) := by unfold dV; rw [HE.out, if_pos h0]
      rw [e, HE.out, h0]
      exact this
    · have HVA := Lib.hid (rvalid_any w v n f h)
      have e : dV n f a b = 0 := by unfold dV; rw [HE.out, if_neg h0]
      rw [e, HE.out]
      have h0' : (vE n f == 0) = false := by rw [beq_eq_false_iff_ne]; exact h0
      have h0'' : (vE n f != 0) = true := by rw [bne_iff_ne]; exact h0
      generalize vE n f = er at *
      clear h h0 e
      go_enter Try.func27, Try.ntmps27
      go_wp2_with fail
      refine HVA.out.mono ?_
      rintro e w1 ⟨rfl, hb1⟩
      have HB1 := Lib.hid hb1
      clear hb1
      go_wp2_with fail
      go_ret2
      exact ⟨rfl, HB1.out⟩
  · have e1 : dE n f a b = 1 := if_neg hT
    have e : dV n f a b = 0 := by unfold dV; rw [e1]; rfl
    rw [e, e1]
    clear h e e1
    by_cases a0 : a < 0
    · clear hT
      go_enter Try.func27, Try.ntmps27
      go_wp2_with fail
      go_ret2
      exact ⟨rfl, Below.refl _ _⟩
    · by_cases a1 : 1073741824 < a
      · clear hT
        go_enter Try.func27, Try.ntmps27
        go_wp2_with fail
        go_ret2
        exact ⟨rfl, Below.refl _ _⟩
      · by_cases b0 : b < 0
        · clear hT
          go_enter Try.func27, Try.ntmps27
          go_wp2_with fail
          go_ret2
          exact ⟨rfl, Below.refl _ _⟩
        · have b1 : 1073741824 < b := by unfold isT at hT; omega
          clear hT
          go_enter Try.func27, Try.ntmps27
          go_wp2_with fail
          go_ret2
          exact ⟨rfl, Below.refl _ _⟩

/-- The first stretch that asks for more than it has. -/
def FirstBad (bad : Nat → Nat → Prop) (N : Nat) : Option (Nat × Nat) → Prop
  | none => ∀ a b, a ≤ b → b ≤ N → ¬ bad a b
  | some p => p.1 ≤ p.2 ∧ p.2 ≤ N ∧ bad p.1 p.2 ∧ (∀ a b, a < p.1 → a ≤ b → b ≤ N → ¬ bad a b) ∧ ∀ b, p.1 ≤ b → b < p.2 → ¬ bad p.1 b
theorem fb_ex (bad : Nat → Nat → Prop) (N : Nat) : ∃ r, FirstBad bad N r := by
  by_cases h : ∃ a, ∃ b, a ≤ b ∧ b ≤ N ∧ bad a b
  · obtain ⟨a, ha⟩ := h
    obtain ⟨x, hx, ⟨b, hb⟩, hmin⟩ := least (P := fun a => ∃ b, a ≤ b ∧ b ≤ N ∧ bad a b) a ha
    obtain ⟨y, hy, ⟨y1, y2, y3⟩, hmin2⟩ := least (P := fun b => x ≤ b ∧ b ≤ N ∧ bad x b) b hb
    exact ⟨some (x, y), y1, y2, y3, fun a' b' h1 h2 h3 h4 => hmin a' h1 ⟨b', h2, h3, h4⟩, fun b' h1 h2 h3 => hmin2 b' h2 ⟨h1, by have : y ≤ N := y2; omega, h3⟩⟩
  · exact ⟨none, fun a b h1 h2 h3 => h ⟨a, b, h1, h2, h3⟩⟩
theorem fb_stop {bad : Nat → Nat → Prop} {N : Nat} {r : Option (Nat × Nat)} (h : FirstBad bad N r) {a b : Nat} (hab : a ≤ b) (hb : b ≤ N) (h1 : ∀ a' b', a' < a → a' ≤ b' → b' ≤ N → ¬ bad a' b') (h2 : ∀ b', a ≤ b' → b' < b → ¬ bad a b') (h3 : bad a b) : r = some (a, b) := by
  cases r with
  | none => exact absurd h3 (h a b hab hb)
  | some p =>
    obtain ⟨x, y⟩ := p
    obtain ⟨y1, y2, y3, y4, y5⟩ := h
    simp only at *
    have hx : x = a := by
      rcases Nat.lt_trichotomy x a with k | k | k
      · exact absurd y3 (h1 x y k y1 y2)
      · exact k
      · exact absurd h3 (y4 a b k hab hb)
    subst hx
    have hy : y = b := by
      rcases Nat.lt_trichotomy y b with k | k | k
      · exact absurd y3 (h2 y y1 k)
      · exact k
      · exact absurd h3 (y5 b hab k)
    subst hy
    rfl
theorem fb_end {bad : Nat → Nat → Prop} {N : Nat} {r : Option (Nat × Nat)} (h : FirstBad bad N r) (h1 : ∀ a b, a ≤ b → b ≤ N → ¬ bad a b) : r = none := by
  cases r with
  | none => rfl
  | some p => exact absurd h.2.2.1 (h1 _ _ h.1 h.2.1)
def fout (r : Option (Nat × Nat)) (c : Value) : Value := match r with
  | none => .tuple #[.bool true, .int .i64 0, .int .i64 0, c]
  | some p => .tuple #[.bool false, .int .i64 (p.1 : Nat), .int .i64 (p.2 : Nat), c]
def Bad (I : Nat → It) (n a b : Nat) : Prop := b - a < demN I a b n
def FPost (w : World) (v : Value) (e : Ending) (w' : World) : Prop := e = .returned v ∧ Below w.heap.size w w'

set_option maxHeartbeats 2000000 in
set_option maxRecDepth 100000 in
theorem feas_ok (w : World) (v : Value) (n : Nat) (f : Nat → Tri) (h : Tris w v n f) (h0 : vE n f = 0) (N : Nat) (hN : N ≤ 256) (r : Option (Nat × Nat)) (hr : FirstBad (Bad (itI n f) n) N r) :
    Calls Try.prog 28 #[v, .int .i64 (N : Nat)] w (FPost w (fout r .nilIface)) := by
  have HVA := Lib.hid (valid_any w v n f h)
  obtain ⟨h64, hB, hI⟩ := vE_ok h0
  have h' : Tris w v n (fun i => ofIt (itI n f i)) := h.congr hI
  rw [h0] at HVA
  generalize itI n f = I at *
  clear h0 hI h
  have HR := Lib.hid hr
  have HD := Lib.hid (fun W (hb : Below w.heap.size w W) a b ha hb2 => demand_any W v n I hB h64 (h'.below hb) a b ha hb2)
  have HDL := Lib.hid (fun a b => demN_le hB a b n)
  clear h' hB hr
  go_enter Try.func28, Try.ntmps28
  go_wp2_with fail
  refine HVA.out.mono ?_
  rintro e w1 ⟨rfl, hb1⟩
  rw [errV_0]
  have HB0 := Lib.hid hb1
  clear hb1
  go_wp2_with fail
  go_loopw [25] (fun iv wr => ∃ (a : Nat), a ≤ N + 1 ∧ iv = .int .i64 a ∧ Hid (∀ a' b', a' < a → a' ≤ b' → b' ≤ N → ¬ Bad I n a' b') ∧ Hid (Below w.heap.size w wr)) (fun iv _ => N + 1 - (intOf iv).toNat)
  case atStart => exact ⟨0, Nat.zero_le _, rfl, Lib.hid (fun a' b' h => by omega), HB0⟩
  case round =>
    obtain ⟨a, ha, rfl, HA, HB⟩ := hrel
    by_cases hlt : a < N + 1
    · have hlt' : (a : Int) < (N : Int) + 1 := by omega
      have a0 : (0 : Int) ≤ (a : Int) := by omega
      obtain ⟨wo, hwo⟩ : ∃ wo : World, wo = wr := ⟨_, rfl⟩
      subst hwo
      go_wp2_with fail
      go_loopw [10] (fun iv wr => ∃ (b : Nat), a ≤ b ∧ b ≤ N + 1 ∧ iv = .int .i64 b ∧ Hid (∀ b', a ≤ b' → b' < b → ¬ Bad I n a b') ∧ Hid (Below w.heap.size w wr)) (fun iv _ => N + 1 - (intOf iv).toNat)
      case atStart => exact ⟨a, Nat.le_refl _, by omega, rfl, Lib.hid (fun b' h1 h2 => by omega), HB⟩
      case round =>
        clear HB
        obtain ⟨b, hab, hb, rfl, HA2, HB⟩ := hrel
        have b0 : (0 : Int) ≤ (b : Int) := by omega
        by_cases hbN : b ≤ N
        · have hbN' : (b : Int) ≤ (N : Int) := by omega
          have HD1 := Lib.hid (HD.out wr HB.out a b (by omega) (by omega))
          have hdl := HDL.out a b
          have hdl2 : n * b ≤ 64 * 256 := Nat.mul_le_mul h64 (by omega)
          by_cases hbad : Bad I n a b
          · have HRR := Lib.hid (fb_stop HR.out hab hbN HA.out HA2.out hbad)
            have hbad2 : (b : Int) - (a : Int) < (demN I a b n : Nat) := by unfold Bad at hbad; omega
            generalize demN I a b n = d at *
            clear hbad
            go_wp2_with fail
            refine HD1.out.mono ?_
            rintro e w2 ⟨rfl, hb2⟩
            have HB2 := Lib.hid (bnext HB.out hb2)
            clear hb2
            go_wp2_with fail
            exact bodyPost_ret (v := .tuple #[.bool false, .int .i64 (a : Nat), .int .i64 (b : Nat), .nilIface]) (by simp [results, Try.results28, go_sem]) rfl ⟨by rw [HRR.out]; rfl, HB2.out⟩
          · have HA3 := Lib.hid (show ∀ b', a ≤ b' → b' < b + 1 → ¬ Bad I n a b' from fun b' h1 h2 => by
              by_cases e : b' = b
              · subst e; exact hbad
              · exact HA2.out b' h1 (by omega))
            have hbad2 : ((demN I a b n : Nat) : Int) ≤ (b : Int) - (a : Int) := by unfold Bad at hbad; omega
            generalize demN I a b n = d at *
            clear hbad
            go_wp2_with fail
            refine HD1.out.mono ?_
            rintro e w2 ⟨rfl, hb2⟩
            have HB2 := Lib.hid (bnext HB.out hb2)
            clear hb2
            go_wp2_with fail
            go_roundw
            case rel => exact ⟨b + 1, by omega, by omega, by go_num, HA3, HB2⟩
            case measure => simp [intOf]; omega
        · have hbN' : (N : Int) < (b : Int) := by omega
          have HA3 := Lib.hid (show ∀ a' b', a' < a + 1 → a' ≤ b' → b' ≤ N → ¬ Bad I n a' b' from fun a' b' h1 h2 h3 => by
            by_cases e : a' = a
            · subst e; exact HA2.out b' h2 (by omega)
            · exact HA.out a' b' (by omega) h2 h3)
          go_wp2_with fail
          go_roundw
          case rel => exact ⟨a + 1, by omega, by go_num, HA3, HB⟩
          case measure => simp [intOf]; omega
    · have hlt' : (N : Int) + 1 ≤ (a : Int) := by omega
      have HRR := Lib.hid (fb_end HR.out (fun a' b' h1 h2 => HA.out a' b' (by omega) h1 h2))
      go_wp2_with fail
      exact bodyPost_ret (v := .tuple #[.bool true, .int .i64 0, .int .i64 0, .nilIface]) (by simp [results, Try.results28, go_sem]) rfl ⟨by rw [HRR.out]; rfl, HB.out⟩
set_option maxHeartbeats 2000000 in
set_option maxRecDepth 100000 in
theorem rfeas_ok (w : World) (v : Value) (n : Nat) (f : Nat → Tri) (h : Tris w v n f) (h0 : vE n f = 0) (N : Nat) (hN : N ≤ 256) (r : Option (Nat × Nat)) (hr : FirstBad (Bad (itI n f) n) N r) :
    Calls Try.prog 29 #[v, .int .i64 (N : Nat)] w (FPost w (fout r (.int .i64 0))) := by
  have HVA := Lib.hid (rvalid_any w v n f h)
  obtain ⟨h64, hB, hI⟩ := vE_ok h0
  rw [h0] at HVA
  have HR := Lib.hid hr
  have HD := Lib.hid (fun W (hb : Below w.heap.size w W) a b ha hb2 => rdemand_ok W v n f (h.below hb) h0 a b ha hb2)
  have HDL := Lib.hid (fun a b => demN_le hB a b n)
  generalize itI n f = I at *
  clear hB hr h0 hI h
  go_enter Try.func29, Try.ntmps29
  go_wp2_with fail
  refine HVA.out.mono ?_
  rintro e w1 ⟨rfl, hb1⟩
  have HB0 := Lib.hid hb1
  clear hb1
  go_wp2_with fail
  go_loopw [9] (fun iv wr => ∃ (a : Nat), a ≤ N + 1 ∧ iv = .int .i64 a ∧ Hid (∀ a' b', a' < a → a' ≤ b' → b' ≤ N → ¬ Bad I n a' b') ∧ Hid (Below w.heap.size w wr)) (fun iv _ => N + 1 - (intOf iv).toNat)
  case atStart => exact ⟨0, Nat.zero_le _, rfl, Lib.hid (fun a' b' h => by omega), HB0⟩
  case round =>
    obtain ⟨a, ha, rfl, HA, HB⟩ := hrel
    by_cases hlt : a < N + 1
    · have hlt' : (a : Int) ≤ (N : Int) := by omega
      have a0 : (0 : Int) ≤ (a : Int) := by omega
      obtain ⟨wo, hwo⟩ : ∃ wo : World, wo = wr := ⟨_, rfl⟩
      subst hwo
      go_wp2_with fail
      go_loopw [10] (fun iv wr => ∃ (b : Nat), a ≤ b ∧ b ≤ N + 1 ∧ iv = .int .i64 b ∧ Hid (∀ b', a ≤ b' → b' < b → ¬ Bad I n a b') ∧ Hid (Below w.heap.size w wr)) (fun iv _ => N + 1 - (intOf iv).toNat)
      case atStart => exact ⟨a, Nat.le_refl _, by omega, rfl, Lib.hid (fun b' h1 h2 => by omega), HB⟩
      case round =>
        clear HB
        obtain ⟨b, hab, hb, rfl, HA2, HB⟩ := hrel
        have b0 : (0 : Int) ≤ (b : Int) := by omega
        by_cases hbN : b ≤ N
        · have hbN' : (b : Int) ≤ (N : Int) := by omega
          have HD1 := Lib.hid (HD.out wr HB.out a b (by omega) (by omega))
          have hdl := HDL.out a b
          have hdl2 : n * b ≤ 64 * 256 := Nat.mul_le_mul h64 (by omega)
          by_cases hbad : Bad I n a b
          · have HRR := Lib.hid (fb_stop HR.out hab hbN HA.out HA2.out hbad)
            have hbad2 : (b : Int) - (a : Int) < (demN I a b n : Nat) := by unfold Bad at hbad; omega
            generalize demN I a b n = d at *
            clear hbad
            go_wp2_with fail
            refine HD1.out.mono ?_
            rintro e w2 ⟨rfl, hb2⟩
            have HB2 := Lib.hid (bnext HB.out hb2)
            clear hb2
            go_wp2_with fail
            exact bodyPost_ret (v := .tuple #[.bool false, .int .i64 (a : Nat), .int .i64 (b : Nat), .int .i64 0]) (by simp [results, Try.results29, go_sem]) rfl ⟨by rw [HRR.out]; rfl, HB2.out⟩
          · have HA3 := Lib.hid (show ∀ b', a ≤ b' → b' < b + 1 → ¬ Bad I n a b' from fun b' h1 h2 => by
              by_cases e : b' = b
              · subst e; exact hbad
              · exact HA2.out b' h1 (by omega))
            have hbad2 : ((demN I a b n : Nat) : Int) ≤ (b : Int) - (a : Int) := by unfold Bad at hbad; omega
            generalize demN I a b n = d at *
            clear hbad
            go_wp2_with fail
            refine HD1.out.mono ?_
            rintro e w2 ⟨rfl, hb2⟩
            have HB2 := Lib.hid (bnext HB.out hb2)
            clear hb2
            go_wp2_with fail
            go_roundw
            case rel => exact ⟨b + 1, by omega, by omega, by go_num, HA3, HB2⟩
            case measure => simp [intOf]; omega
        · have hbN' : (N : Int) < (b : Int) := by omega
          have HA3 := Lib.hid (show ∀ a' b', a' < a + 1 → a' ≤ b' → b' ≤ N → ¬ Bad I n a' b' from fun a' b' h1 h2 h3 => by
            by_cases e : a' = a
            · subst e; exact HA2.out b' h2 (by omega)
            · exact HA.out a' b' (by omega) h2 h3)
          go_wp2_with fail
          go_roundw
          case rel => exact ⟨a + 1, by omega, by go_num, HA3, HB⟩
          case measure => simp [intOf]; omega
    · have hlt' : (N : Int) < (a : Int) := by omega
      have HRR := Lib.hid (fb_end HR.out (fun a' b' h1 h2 => HA.out a' b' (by omega) h1 h2))
      go_wp2_with fail
      exact bodyPost_ret (v := .tuple #[.bool true, .int .i64 0, .int .i64 0, .int .i64 0]) (by simp [results, Try.results29, go_sem]) rfl ⟨by rw [HRR.out]; rfl, HB.out⟩

/-- Whatever the number is. -/
def fE (n : Nat) (f : Nat → Tri) (N : Int) : Int := if 0 ≤ N ∧ N ≤ 256 then vE n f else 1
def FRes (n : Nat) (f : Nat → Tri) (N : Int) (r : Option (Nat × Nat)) : Prop := fE n f N = 0 → FirstBad (Bad (itI n f) n) N.toNat r
def fout2 (er : Int) (r : Option (Nat × Nat)) (c : Value) : Value := if er = 0 then fout r c else .tuple #[.bool false, .int .i64 0, .int .i64 0, c]
set_option maxHeartbeats 1000000 in
set_option maxRecDepth 100000 in
theorem feas_any (w : World) (v : Value) (n : Nat) (f : Nat → Tri) (h : Tris w v n f) (N : Int) (r : Option (Nat × Nat)) (hr : FRes n f N r) :
    Calls Try.prog 28 #[v, .int .i64 N] w (FPost w (fout2 (fE n f N) r (errV (fE n f N)))) := by
  by_cases hN : 0 ≤ N ∧ N ≤ 256
  · have HE : fE n f N = vE n f := if_pos hN
    obtain ⟨h1, h2⟩ := hN
    by_cases h0 : vE n f = 0
    · have hA := Int.toNat_of_nonneg h1
      have := feas_ok w v n f h h0 N.toNat (by omega) r (hr (HE.trans h0))
      rw [hA] at this
      rw [HE, h0]
      exact this
    · have HVA := Lib.hid (valid_any w v n f h)
      rw [HE]
      have e : fout2 (vE n f) r (errV (vE n f)) = .tuple #[.bool false, .int .i64 0, .int .i64 0, (errV (vE n f))] := if_neg h0
      rw [e]
      have HER := Lib.hid (errV_iface _ h0)
      rw [HER.out]
      generalize vE n f = er at *
      clear h h0 e hr HE
      go_enter Try.func28, Try.ntmps28
      go_wp2_with fail
      refine HVA.out.mono ?_
      rintro e w1 ⟨rfl, hb1⟩
      rw [HER.out]
      have HB1 := Lib.hid hb1
      clear hb1
      go_wp2_with fail
      exact bodyPost_ret (v := .tuple #[.bool false, .int .i64 0, .int .i64 0, .iface 70 (.int .i64 er)]) (by simp [results, Try.results28, go_sem]) rfl ⟨rfl, HB1.out⟩
  · have HE : fE n f N = 1 := if_neg hN
    rw [HE]
    clear h hr HE
    by_cases h1 : N < 0
    · clear hN
      go_enter Try.func28, Try.ntmps28
      go_wp2_with fail
      exact bodyPost_ret (v := .tuple #[.bool false, .int .i64 0, .int .i64 0, .iface 70 (.int .i64 1)]) (by simp [results, Try.results28, go_sem]) rfl ⟨rfl, Below.refl _ _⟩
    · have h2 : 256 < N := by omega
      clear hN
      go_enter Try.func28, Try.ntmps28
      go_wp2_with fail
      exact bodyPost_ret (v := .tuple #[.bool false, .int .i64 0, .int .i64 0, .iface 70 (.int .i64 1)]) (by simp [results, Try.results28, go_sem]) rfl ⟨rfl, Below.refl _ _⟩
set_option maxHeartbeats 1000000 in
set_option maxRecDepth 100000 in
theorem rfeas_any (w : World) (v : Value) (n : Nat) (f : Nat → Tri) (h : Tris w v n f) (N : Int) (r : Option (Nat × Nat)) (hr : FRes n f N r) :
    Calls Try.prog 29 #[v, .int .i64 N] w (FPost w (fout2 (fE n f N) r (.int .i64 (fE n f N)))) := by
  by_cases hN : 0 ≤ N ∧ N ≤ 256
  · have HE : fE n f N = vE n f := if_pos hN
    obtain ⟨h1, h2⟩ := hN
    by_cases h0 : vE n f = 0
    · have hA := Int.toNat_of_nonneg h1
      have := rfeas_ok w v n f h h0 N.toNat (by omega) r (hr (HE.trans h0))
      rw [hA] at this
      rw [HE, h0]
      exact this
    · have HVA := Lib.hid (rvalid_any w v n f h)
      rw [HE]
      have e : fout2 (vE n f) r (.int .i64 (vE n f)) = .tuple #[.bool false, .int .i64 0, .int .i64 0, (.int .i64 (vE n f))] := if_neg h0
      rw [e]
      have h0' : (vE n f == 0) = false := by rw [beq_eq_false_iff_ne]; exact h0
      have h0'' : (vE n f != 0) = true := by rw [bne_iff_ne]; exact h0
      generalize vE n f = er at *
      clear h h0 e hr HE
      go_enter Try.func29, Try.ntmps29
      go_wp2_with fail
      refine HVA.out.mono ?_
      rintro e w1 ⟨rfl, hb1⟩
      have HB1 := Lib.hid hb1
      clear hb1
      go_wp2_with fail
      exact bodyPost_ret (v := .tuple #[.bool false, .int .i64 0, .int .i64 0, .int .i64 er]) (by simp [results, Try.results29, go_sem]) rfl ⟨rfl, HB1.out⟩
  · have HE : fE n f N = 1 := if_neg hN
    rw [HE]
    clear h hr HE
    by_cases h1 : N < 0
    · clear hN
      go_enter Try.func29, Try.ntmps29
      go_wp2_with fail
      exact bodyPost_ret (v := .tuple #[.bool false, .int .i64 0, .int .i64 0, .int .i64 1]) (by simp [results, Try.results29, go_sem]) rfl ⟨rfl, Below.refl _ _⟩
    · have h2 : 256 < N := by omega
      clear hN
      go_enter Try.func29, Try.ntmps29
      go_wp2_with fail
      exact bodyPost_ret (v := .tuple #[.bool false, .int .i64 0, .int .i64 0, .int .i64 1]) (by simp [results, Try.results29, go_sem]) rfl ⟨rfl, Below.refl _ _⟩
end Go.Proofs.Ytfahpjilgdlhiaa
