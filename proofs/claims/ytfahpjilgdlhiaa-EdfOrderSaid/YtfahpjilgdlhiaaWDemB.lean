/- Demand: the program's and the document's; no condition but those that each row names. -/
import Derived.Test.YtfahpjilgdlhiaaWDem
namespace Go.Proofs.Ytfahpjilgdlhiaa
open Go.RowKit Edf

/-- The error of a stretch, and what it asks for. -/
def dE (n : Nat) (f : Nat → Tri) (a b : Int) : Int := if isT a ∧ isT b then vE n f else 1
def dV (n : Nat) (f : Nat → Tri) (a b : Int) : Int := if dE n f a b = 0 then (demN (itI n f) a.toNat b.toNat n : Nat) else 0
def DPost (w : World) (d : Int) (c : Value) (e : Ending) (w' : World) : Prop := e = .returned (.tuple #[.int .i64 d, c]) ∧ Below w.heap.size w w'
theorem errV_iface (n : Int) (h : n ≠ 0) : errV n = .iface 70 (.int .i64 n) := if_neg h

set_option maxHeartbeats 1000000 in
set_option maxRecDepth 100000 in
theorem Demand_any (w : World) (v : Value) (n : Nat) (f : Nat → Tri) (h : Tris w v n f) (a b : Int) : Calls Try.prog 26 #[v, .int .i64 a, .int .i64 b] w (DPost w (dV n f a b) (errV (dE n f a b))) := by
  have HTY := Lib.hid (fun n w h => time_yes n w h)
  have HTN := Lib.hid (fun n w h => time_no n w h)
  by_cases hT : isT a ∧ isT b
  · have HVA := Lib.hid (valid_any w v n f h)
    have HE := Lib.hid (show dE n f a b = vE n f from if_pos hT)
    obtain ⟨ha, hb⟩ := hT
    by_cases h0 : vE n f = 0
    · obtain ⟨h64, hB, hI⟩ := vE_ok h0
      have hA := Int.toNat_of_nonneg ha.1
      have hBb := Int.toNat_of_nonneg hb.1
      have h' : Tris w v n (fun i => ofIt (itI n f i)) := h.congr hI
      have HD := Lib.hid (show ∀ W, Below w.heap.size w W → Calls Try.prog 42 #[v, .int .i64 a, .int .i64 b] W (IntPost W (demN (itI n f) a.toNat b.toNat n : Nat)) from fun W hb2 => by
        have := demand_any W v n (itI n f) hB h64 (h'.below hb2) a.toNat b.toNat (by have := ha.2; omega) (by have := hb.2; omega)
        rw [hA, hBb] at this
        exact this)
      have HR := Lib.hid (show dV n f a b = (demN (itI n f) a.toNat b.toNat n : Nat) by unfold dV; rw [HE.out, if_pos h0])
      rw [HR.out, HE.out, h0]
      rw [h0] at HVA
      clear hA hBb h' h0 hB hI h HR
      go_enter Try.func26, Try.ntmps26
      go_wp2_with fail
      refine (HTY.out _ _ ha).mono ?_
      rintro e w1 ⟨rfl, rfl⟩
      go_wp2_with fail
      refine (HTY.out _ _ hb).mono ?_
      rintro e w1 ⟨rfl, rfl⟩
      go_wp2_with fail
      refine HVA.out.mono ?_
      rintro e w1 ⟨rfl, hb1⟩
      rw [errV_0]
      have HB1 := Lib.hid hb1
      clear hb1
      go_wp2_with fail
      refine (HD.out _ HB1.out).mono ?_
      rintro e w2 ⟨rfl, hb2⟩
      have HB2 := Lib.hid (bnext HB1.out hb2)
      clear hb2
      go_wp2_with fail
      go_ret2
      exact ⟨rfl, HB2.out⟩
    · have HR := Lib.hid (show dV n f a b = 0 by unfold dV; rw [HE.out, if_neg h0])
      have HER := Lib.hid (errV_iface _ h0)
      rw [HR.out, HE.out, HER.out]
      clear h0 h HR
      go_enter Try.func26, Try.ntmps26
      go_wp2_with fail
      refine (HTY.out _ _ ha).mono ?_
      rintro e w1 ⟨rfl, rfl⟩
      go_wp2_with fail
      refine (HTY.out _ _ hb).mono ?_
      rintro e w1 ⟨rfl, rfl⟩
      go_wp2_with fail
      refine HVA.out.mono ?_
      rintro e w1 ⟨rfl, hb1⟩
      rw [HER.out]
      have HB1 := Lib.hid hb1
      clear hb1
      go_wp2_with fail
      go_ret2
      exact ⟨rfl, HB1.out⟩
  · have HE := Lib.hid (show dE n f a b = 1 from if_neg hT)
    have HR := Lib.hid (show dV n f a b = 0 by unfold dV; rw [HE.out]; rfl)
    rw [HR.out, HE.out]
    clear h
    by_cases ha : isT a
    · have hb : ¬ isT b := fun k => hT ⟨ha, k⟩
      clear hT
      go_enter Try.func26, Try.ntmps26
      go_wp2_with fail
      refine (HTY.out _ _ ha).mono ?_
      rintro e w1 ⟨rfl, rfl⟩
      go_wp2_with fail
      refine (HTN.out _ _ hb).mono ?_
      rintro e w1 ⟨rfl, rfl⟩
      go_wp2_with fail
      go_ret2
      exact ⟨rfl, Below.refl _ _⟩
    · clear hT
      go_enter Try.func26, Try.ntmps26
      go_wp2_with fail
      refine (HTN.out _ _ ha).mono ?_
      rintro e w1 ⟨rfl, rfl⟩
      go_wp2_with fail
      go_ret2
      exact ⟨rfl, Below.refl _ _⟩

/-- The document's, of items that may be. -/
theorem demN_none {I : Nat → It} {a b : Nat} (h : b < a) (hB : ∀ i, ItB (I i)) : ∀ n, demN I a b n = 0
  | 0 => rfl
  | n + 1 => by
    have h1 := demN_none h hB n
    have h2 := nin_0 (I n) (a := a) (b := b) (by have := bg_ge (I n) (by have := (hB n).q1; have := (hB n).qp; omega) a; omega)
    unfold demN at *
    simp only [sumN]
    rw [h1]
    show 0 + (I n).q * nin (I n) a b = 0
    rw [h2]; simp
set_option maxHeartbeats 2000000 in
set_option maxRecDepth 100000 in
theorem rdemand_ok (w : World) (v : Value) (n : Nat) (f : Nat → Tri) (h : Tris w v n f) (h0 : vE n f = 0) (a b : Nat) (ha : a ≤ 1073741824) (hb : b ≤ 1073741824) :
    Calls Try.prog 27 #[v, .int .i64 (a : Nat), .int .i64 (b : Nat)] w (DPost w (demN (itI n f) a b n : Nat) (.int .i64 0)) := by
  have HVA := Lib.hid (rvalid_any w v n f h)
  obtain ⟨h64, hB, hI⟩ := vE_ok h0
  have h' : Tris w v n (fun i => ofIt (itI n f i)) := h.congr hI
  rw [h0] at HVA
  generalize itI n f = I at *
  clear h0 hI h
  have HV := Lib.hid (fun w1 (hb : Below w.heap.size w w1) => h'.below hb)
  obtain ⟨p, cap, rfl, hm, hdrop⟩ := h'
  clear hdrop
  have HIB := Lib.hid hB
  have HBG := Lib.hid (fun i w => within_any (I i) (hB i) a b ha hb w)
  have HDL := Lib.hid (fun k => demN_le hB a b k)
  have HND := Lib.hid (fun h : b < a => demN_none (I := I) h hB)
  clear hB
  go_enter Try.func27, Try.ntmps27
  go_wp2_with fail
  refine HVA.out.mono ?_
  rintro e w1 ⟨rfl, hb1⟩
  have HB0 := Lib.hid hb1
  clear hb1
  go_wp2_with fail
  go_loopw [9, 10] (fun sv iv wr => ∃ (k : Nat), k ≤ n ∧ iv = .int .i64 k ∧ sv = .int .i64 (demN I a b k : Nat) ∧ Hid (Below w.heap.size w wr)) (fun _ iv _ => n - (intOf iv).toNat)
  case atStart => exact ⟨0, Nat.zero_le _, rfl, rfl, HB0⟩
  case round =>
    obtain ⟨k, hk, rfl, rfl, HB⟩ := hrel
    by_cases hlt : k < n
    · have hlt' : (k : Int) < (n : Int) := by omega
      have k0 : (0 : Int) ≤ (k : Int) := by omega
      by_cases hab : a ≤ b
      · have hab' : (a : Int) ≤ (b : Int) := by omega
        obtain ⟨bb, off, _, hsl, c0, c1, c2⟩ := its_at (HV.out wr HB.out) k hlt
        injection hsl with hs1 hs2 hs3
        subst hs1 hs3
        clear hs2
        have HS := Lib.hid (show demN I a b (k + 1) = demN I a b k + (I k).q * nin (I k) a b from rfl)
        have hd1 := HDL.out k
        have hd2 := HDL.out (k + 1)
        have hd3 : k * b ≤ 64 * 1073741824 := Nat.mul_le_mul (by omega) hb
        have hd4 : (k + 1) * b ≤ 64 * 1073741824 := Nat.mul_le_mul (by omega) hb
        rw [HS.out] at hd2
        have HB1 := Lib.hid (HBG.out k)
        have hnn := nin_le2 (I k) a b
        generalize I k = x at *
        generalize demN I a b k = S at *
        obtain ⟨q, p, s⟩ := x
        simp only at *
        generalize nin ⟨q, p, s⟩ a b = nn at *
        have hbl := cell_lt c0
        have HX := Lib.hid (show ∀ W, Below wr.heap.size wr W → (W.cell? ⟨bb, off + k * 3, none⟩ = some (.int .i64 (q : Nat)) ∧ W.cell? ⟨bb, off + k * 3 + 1, none⟩ = some (.int .i64 (p : Nat)) ∧ W.cell? ⟨bb, off + k * 3 + 2, none⟩ = some (.int .i64 (s : Nat)) ∧ Below wr.heap.size wr W) from fun W hb =>
          ⟨(hb.cell (p := ⟨bb, off + k * 3, none⟩) hbl).trans c0, (hb.cell (p := ⟨bb, off + k * 3 + 1, none⟩) hbl).trans c1, (hb.cell (p := ⟨bb, off + k * 3 + 2, none⟩) hbl).trans c2, hb⟩)
        obtain ⟨qn, hqn⟩ : ∃ z, z = q * nn := ⟨_, rfl⟩
        rw [← hqn] at hd2 HS
        have e3 : IntKind.i64.wrap ((q : Int) * (nn : Int)) = (qn : Int) := by
          have e : ((q : Int) * (nn : Int)) = (qn : Int) := by rw [hqn]; simp
          rw [e]; exact IntWalk.i64_in _ (by omega)
        obtain ⟨S', hS'⟩ : ∃ z, z = demN I a b (k + 1) := ⟨_, rfl⟩
        rw [← hS'] at HS
        have e4 : IntKind.i64.wrap ((S : Int) + (qn : Int)) = (S' : Int) := by
          rw [HS.out]; rw [show ((S + qn : Nat) : Int) = (S : Int) + (qn : Int) by omega]; exact IntWalk.i64_in _ (by omega)
        have HS' := Lib.hid hS'
        clear hqn hS'
        go_upto_region 10 with fail
        go_region_held3 (fun W => W.cell? ⟨bb, off + k * 3, none⟩ = some (.int .i64 (q : Nat)) ∧ W.cell? ⟨bb, off + k * 3 + 1, none⟩ = some (.int .i64 (p : Nat)) ∧ W.cell? ⟨bb, off + k * 3 + 2, none⟩ = some (.int .i64 (s : Nat)) ∧ Below wr.heap.size wr W)
          (first | exact HX.out _ below_drewOne | exact HX.out _ (Below.refl _ _) | (go_split_ands; refine HX.out _ (bnext ?_ hb); first | assumption | exact below_drewOne | exact Below.refl _ _))
          (first | (go_at_call 43; refine (HB1.out _).mono ?_; rintro e w3 ⟨rfl, hb⟩))
        all_goals
          go_wp2_with fail
          go_roundw
          case rel => go_split_ands; exact ⟨k + 1, by omega, by go_num, by rw [HS'.out], Lib.hid (bnext HB.out (by assumption))⟩
          case measure => simp [intOf]; omega
      · have hab' : (b : Int) < (a : Int) := by omega
        have hz : demN I a b n = demN I a b k := by rw [HND.out (by omega) k, HND.out (by omega) n]
        have HZ := Lib.hid hz
        have hab2 : decide (a ≤ b) = false := decide_eq_false hab
        clear hz hab
        go_wp2_with fail
        go_ret2
        exact ⟨by rw [HZ.out]; rfl, HB.out⟩
    · have hge : decide (k < n) = false := decide_eq_false hlt
      obtain rfl : k = n := by omega
      clear hlt
      go_wp2_with fail
      go_ret2
      exact ⟨rfl, HB.out⟩
end Go.Proofs.Ytfahpjilgdlhiaa
