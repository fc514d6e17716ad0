/- The program's Missed; no condition but those that each row names. -/
import Derived.Test.YtfahpjilgdlhiaaWMissA
import Derived.Deep.CutBlock
import Derived.Deep.CutRange
namespace Go.Proofs.Ytfahpjilgdlhiaa
open Go.RowKit Edf

theorem iz_int : ∃ i0, Try.prog.info? 3 = some i0 ∧ i0.zero = some (.int .i64 0) ∧ i0.size = 1 ∧ i0.bytes = 8 := by
  obtain ⟨i0, h1, h2, h3, h4⟩ := info_parts Try.info3
  exact ⟨i0, h1, h2, h3, h4⟩
theorem made_nums (n : Nat) : (madeCells (Value.int .i64 0).cells (n * 1)).toList = numL (fun _ => 0) n := by
  rw [Nat.mul_one]
  show (madeCells #[Value.int .i64 0] n).toList = _
  rw [toList_madeCells_one]
  apply List.ext_getElem?
  intro j
  by_cases hj : j < n
  · unfold numL; rw [lst_at hj]; simp [hj]
  · rw [List.getElem?_eq_none (by simp; omega), List.getElem?_eq_none (by rw [numL_len]; omega)]
/-- Are all places those of items? -/
def pOk (N n : Nat) (g : Nat → Int) : Prop := ∀ j, j < N → -1 ≤ g j ∧ g j < n
instance (N n : Nat) (g : Nat → Int) : Decidable (pOk N n g) := by unfold pOk; infer_instance
def mE (n : Nat) (f : Nat → Tri) (N : Nat) (g : Nat → Int) : Int := if N ≤ 4096 ∧ pOk N n g then vE n f else 1
/-- What is missed of each. -/
def mV (I : Nat → It) (N : Nat) (g : Nat → Int) (i : Nat) : Int := (msN (I i) i g (per (I i) N) : Nat)
theorem nil_nums (B : Nat) (w : World) (f : Nat → Int) : NumsO B w (.slice none 0 0) 0 f := World.ownsRow_nil _ _ _ _
def half (f : Nat → Int) (k : Nat) (i : Nat) : Int := if i < k then f i else 0
theorem half_upd (f : Nat → Int) (k n : Nat) : numL (upd (half f k) k (f k)) n = numL (half f (k + 1)) n := numL_congr fun i _ => by
  unfold upd half
  by_cases e : i = k
  · subst e; rw [if_pos rfl, if_pos (by omega)]
  · rw [if_neg e]
    by_cases h : i < k
    · rw [if_pos h, if_pos (by omega)]
    · rw [if_neg h, if_neg (by omega)]
theorem half_end (f : Nat → Int) (n : Nat) : numL (half f n) n = numL f n := numL_congr fun i h => by unfold half; rw [if_pos h]
theorem half_0 (f : Nat → Int) (n : Nat) : numL (fun _ => (0 : Int)) n = numL (half f 0) n := numL_congr fun i _ => by unfold half; rw [if_neg (by omega)]

set_option maxHeartbeats 4000000 in
set_option maxRecDepth 100000 in
theorem missed_ok (w : World) (v : Value) (n : Nat) (f : Nat → Tri) (h : Tris w v n f) (p0 : Option Addr) (N cap0 : Nat) (g : Nat → Int) (hp : Nums w (.slice p0 N cap0) N g) (hcap : N ≤ cap0) (hN : N ≤ 4096) (hok : pOk N n g) (h0 : vE n f = 0) :
    Calls Try.prog 24 #[v, .slice p0 N cap0] w (NumsPost w n (mV (itI n f) N g) .nilIface) := by
  have HVA := Lib.hid (fun W (hb : Below w.heap.size w W) => valid_any W v n f (h.below hb))
  obtain ⟨h64, hB, hI⟩ := vE_ok h0
  have h' : Tris w v n (fun i => ofIt (itI n f i)) := h.congr hI
  rw [h0] at HVA
  generalize itI n f = I at *
  clear h0 hI h
  have HOK := Lib.hid hok
  have HP := Lib.hid (fun W (hb : Below w.heap.size w W) => hp.below hb)
  have HV := Lib.hid (fun W (hb : Below w.heap.size w W) => h'.below hb)
  have HM := Lib.hid (fun W (hb : Below w.heap.size w W) k => missedOf_any (I k) (hB k) k W p0 N cap0 g (hp.below hb) hcap hN)
  have HMV := Lib.hid (show ∀ k : Nat, mV I N g k = (msN (I k) k g (per (I k) N) : Nat) from fun k => rfl)
  obtain ⟨p1, cap1, rfl, hm, _⟩ := h'
  obtain ⟨i0, hi, hz0, hz1, hz2⟩ := iz_int
  clear hok hp hB
  go_enter Try.func24, Try.ntmps24
  go_wp2_with fail
  go_loop [18] (fun iv => ∃ (k : Nat), k ≤ N ∧ iv = .int .i64 k) (fun iv => N - (intOf iv).toNat)
  case atStart => exact ⟨0, Nat.zero_le _, rfl⟩
  case round =>
    obtain ⟨k, hk, rfl⟩ := hrel
    by_cases hlt : k < N
    · have hlt' : (k : Int) < (N : Int) := by omega
      have k0 : (0 : Int) ≤ (k : Int) := by omega
      obtain ⟨_, _, hsl, _, hcs⟩ := HP.out w (Below.refl _ _)
      injection hsl with hs1 hs2' hs3
      subst hs1 hs3
      obtain ⟨b, off, rfl, c0⟩ := hcs k hlt
      obtain ⟨g1, g2⟩ := HOK.out k hlt
      clear hcs hs2'
      generalize g k = z at *
      go_wp2_with fail
      go_round
      case rel => exact ⟨k + 1, by omega, by go_num⟩
      case measure => simp [intOf]; omega
    · have hge : decide (k < N) = false := decide_eq_false hlt
      clear hlt
      go_wp2_with fail
      refine (HVA.out _ (Below.refl _ _)).mono ?_
      rintro e w1 ⟨rfl, hb1⟩
      rw [errV_0]
      have HB1 := Lib.hid hb1
      clear hb1
      go_wp2_with (at_make; refine wpList_make_full _ rfl _ _ 30 rfl w.heap.size 3 i0 (.int .i64 0) 1 Try.underlying30 hi hz0 hz1 .i64 .i64 _ _ n rfl rfl (by first | rfl | omega) (by first | rfl | omega) (by rw [hz2]; omega) (by unfold maxLen; omega) HB1.out.size ?_; intro w2 hown2 hgrow2)
      rw [made_nums, half_0 (mV I N g)] at hown2
      have HO2 := Lib.hid (show NumsO w.heap.size w2 (.slice (some ⟨w1.heap.size, 0, none⟩) n n) n (half (mV I N g) 0) from hown2)
      have HB2 := Lib.hid (HB1.out.grown hgrow2 HB1.out.size (fun k e => by cases e))
      clear hown2 hgrow2
      generalize w1.heap.size = G at *
      go_loopw [42] (fun iv wr => ∃ (k : Nat), k ≤ n ∧ iv = .int .i64 k ∧ Hid (NumsO w.heap.size wr (.slice (some ⟨G, 0, none⟩) n n) n (half (mV I N g) k)) ∧ Hid (Below w.heap.size w wr)) (fun iv _ => n - (intOf iv).toNat)
      case atStart => exact ⟨0, Nat.zero_le _, rfl, HO2, HB2⟩
      case round =>
        clear HO2 HB2
        obtain ⟨k2, hk2, rfl, HO, HB⟩ := hrel
        by_cases hlt : k2 < n
        · have hlt' : (k2 : Int) < (n : Int) := by omega
          have k0 : (0 : Int) ≤ (k2 : Int) := by omega
          obtain ⟨bb, off, _, hsl, c0, c1, c2⟩ := its_at (HV.out wr HB.out) k2 hlt
          injection hsl with hs1 hs2' hs3
          subst hs1 hs3
          clear hs2'
          have HM1 := Lib.hid (fun W (hb : Below wr.heap.size wr W) => HM.out W (bnext HB.out hb) k2)
          have HM2 := Lib.hid (HMV.out k2)
          generalize I k2 = x at *
          obtain ⟨q, p, s⟩ := x
          simp only at *
          have hbl := cell_lt c0
          simp only at hbl
          have HB3 := Lib.hid (fun o => below_alloc (Below.refl wr.heap.size wr) o)
          go_wp2_with fail
          refine (HM1.out _ (HB3.out _)).mono ?_
          rintro e w3 ⟨rfl, hb3⟩
          have HB4 := Lib.hid (bnext (HB3.out _) hb3)
          have HO4 := Lib.hid (own_under HO.out HB4.out)
          have HB5 := Lib.hid (bnext HB.out HB4.out)
          have hG : G < w3.heap.size := (World.ownsRow.lt HO4.out G rfl).2
          have g0 : w3.cell? ⟨G, k2, none⟩ = some (.int .i64 (half (mV I N g) k2 k2)) := by rw [World.ownsRow.cellAt HO4.out k2 (by omega)]; exact lst_at hlt
          have gf : w3.frozen? ⟨G, k2, none⟩ = false := World.ownsRow.frozenAt HO4.out k2
          have HGB := Lib.hid (show w.heap.size ≤ G from (World.ownsRow.lt HO4.out G rfl).1)
          clear hb3 c0 c1 c2
          have HO6 := Lib.hid (show NumsO w.heap.size (w3.setCell ⟨G, k2, none⟩ (.int .i64 (mV I N g k2))) (.slice (some ⟨G, 0, none⟩) n n) n (half (mV I N g) (k2 + 1)) from by
            have := (World.ownsRow.stored HO4.out k2 (.int .i64 (mV I N g k2))).1
            rw [numL_set, half_upd] at this
            exact this)
          rw [HM2.out] at HO6
          generalize half (mV I N g) k2 k2 = old at *
          go_wp2_with fail
          go_roundw
          case rel => exact ⟨k2 + 1, by omega, by go_num, HO6, Lib.hid (HB5.out.setCell (p := ⟨G, k2, none⟩) HGB.out _)⟩
          case measure => simp [intOf]; omega
        · have hge2 : decide (k2 < n) = false := decide_eq_false hlt
          obtain rfl : k2 = n := by omega
          clear hlt
          go_wp2_with fail
          go_ret2
          exact ⟨_, rfl, by have := HO.out; rw [NumsO, half_end] at this; exact this, HB.out⟩

set_option maxHeartbeats 2000000 in
set_option maxRecDepth 100000 in
theorem missed_bad (w : World) (v : Value) (n : Nat) (f : Nat → Tri) (h : Tris w v n f) (pv : Value) (N : Nat) (g : Nat → Int) (hp : Nums w pv N g) (h1 : ¬ (N ≤ 4096 ∧ pOk N n g)) :
    Calls Try.prog 24 #[v, pv] w (NumsPost w 0 (fun _ => 0) (.iface 70 (.int .i64 1))) := by
  have HP := Lib.hid hp
  obtain ⟨p0, cap0, rfl, hm0, _⟩ := hp
  obtain ⟨p1, cap1, rfl, hm1, _⟩ := h
  by_cases hN : 4096 < N
  · have hN' : (4096 : Int) < (N : Int) := by omega
    clear h1
    go_enter Try.func24, Try.ntmps24
    go_wp2_with fail
    go_ret2
    exact ⟨_, rfl, nil_nums _ _ _, Below.refl _ _⟩
  · have HK := Lib.hid (show ¬ pOk N n g from fun k => h1 ⟨by omega, k⟩)
    clear h1
    go_enter Try.func24, Try.ntmps24
    go_wp2_with fail
    go_loop [18] (fun iv => ∃ (k : Nat), k ≤ N ∧ iv = .int .i64 k ∧ Hid (∀ j, j < k → -1 ≤ g j ∧ g j < n)) (fun iv => N - (intOf iv).toNat)
    case atStart => exact ⟨0, Nat.zero_le _, rfl, Lib.hid (fun j h => by omega)⟩
    case round =>
      obtain ⟨k, hk, rfl, HA⟩ := hrel
      by_cases hlt : k < N
      · have hlt' : (k : Int) < (N : Int) := by omega
        have k0 : (0 : Int) ≤ (k : Int) := by omega
        obtain ⟨_, _, hsl, _, hcs⟩ := HP.out
        injection hsl with hs1 hs2' hs3
        subst hs1 hs3
        obtain ⟨b, off, rfl, c0⟩ := hcs k hlt
        clear hcs hs2'
        by_cases hg : -1 ≤ g k ∧ g k < n
        · obtain ⟨g1, g2⟩ := id hg
          have HA2 := Lib.hid (show ∀ j, j < k + 1 → -1 ≤ g j ∧ g j < n from fun j hj => by
            by_cases e : j = k
            · subst e; exact hg
            · exact HA.out j (by omega))
          clear hg
          generalize g k = z at *
          go_wp2_with fail
          go_round
          case rel => exact ⟨k + 1, by omega, by go_num, HA2⟩
          case measure => simp [intOf]; omega
        · by_cases g1 : g k < -1
          · clear hg
            generalize g k = z at *
            go_wp2_with fail
            go_ret2
            exact ⟨_, rfl, nil_nums _ _ _, Below.refl _ _⟩
          · have g2 : (n : Int) ≤ g k := by omega
            clear hg
            generalize g k = z at *
            go_wp2_with fail
            go_ret2
            exact ⟨_, rfl, nil_nums _ _ _, Below.refl _ _⟩
      · exact absurd (fun j hj => HA.out j (by omega)) HK.out

set_option maxHeartbeats 2000000 in
set_option maxRecDepth 100000 in
theorem missed_inv (w : World) (v : Value) (n : Nat) (f : Nat → Tri) (h : Tris w v n f) (pv : Value) (N : Nat) (g : Nat → Int) (hp : Nums w pv N g) (hN : N ≤ 4096) (hok : pOk N n g) (h0 : vE n f ≠ 0) :
    Calls Try.prog 24 #[v, pv] w (NumsPost w 0 (fun _ => 0) (errV (vE n f))) := by
  have HVA := Lib.hid (valid_any w v n f h)
  have HP := Lib.hid hp
  have HOK := Lib.hid hok
  have HER := Lib.hid (errV_ne h0)
  rw [HER.out]
  obtain ⟨p0, cap0, rfl, hm0, _⟩ := hp
  obtain ⟨p1, cap1, rfl, hm1, _⟩ := h
  have h0' : (vE n f == 0) = false := by rw [beq_eq_false_iff_ne]; exact h0
  have h0'' : (vE n f != 0) = true := by rw [bne_iff_ne]; exact h0
  generalize vE n f = er at *
  clear hok h0
  go_enter Try.func24, Try.ntmps24
  go_wp2_with fail
  go_loop [18] (fun iv => ∃ (k : Nat), k ≤ N ∧ iv = .int .i64 k) (fun iv => N - (intOf iv).toNat)
  case atStart => exact ⟨0, Nat.zero_le _, rfl⟩
  case round =>
    obtain ⟨k, hk, rfl⟩ := hrel
    by_cases hlt : k < N
    · have hlt' : (k : Int) < (N : Int) := by omega
      have k0 : (0 : Int) ≤ (k : Int) := by omega
      obtain ⟨_, _, hsl, _, hcs⟩ := HP.out
      injection hsl with hs1 hs2' hs3
      subst hs1 hs3
      obtain ⟨b, off, rfl, c0⟩ := hcs k hlt
      obtain ⟨g1, g2⟩ := HOK.out k hlt
      clear hcs hs2'
      generalize g k = z at *
      go_wp2_with fail
      go_round
      case rel => exact ⟨k + 1, by omega, by go_num⟩
      case measure => simp [intOf]; omega
    · have hge : decide (k < N) = false := decide_eq_false hlt
      clear hlt
      go_wp2_with fail
      refine HVA.out.mono ?_
      rintro e w1 ⟨rfl, hb1⟩
      rw [HER.out]
      have HB1 := Lib.hid hb1
      clear hb1
      go_wp2_with fail
      go_ret2
      exact ⟨_, rfl, nil_nums _ _ _, HB1.out⟩

def mN (n : Nat) (f : Nat → Tri) (N : Nat) (g : Nat → Int) : Nat := if mE n f N g = 0 then n else 0
def mG (n : Nat) (f : Nat → Tri) (N : Nat) (g : Nat → Int) (i : Nat) : Int := if mE n f N g = 0 then mV (itI n f) N g i else 0
theorem missed_any (w : World) (v : Value) (n : Nat) (f : Nat → Tri) (h : Tris w v n f) (p0 : Option Addr) (N cap0 : Nat) (g : Nat → Int) (hp : Nums w (.slice p0 N cap0) N g) (hcap : N ≤ cap0) :
    Calls Try.prog 24 #[v, .slice p0 N cap0] w (NumsPost w (mN n f N g) (mG n f N g) (errV (mE n f N g))) := by
  by_cases h1 : N ≤ 4096 ∧ pOk N n g
  · have e1 : mE n f N g = vE n f := if_pos h1
    by_cases h0 : vE n f = 0
    · have e2 : mN n f N g = n := if_pos (e1.trans h0)
      have e3 : mG n f N g = mV (itI n f) N g := funext fun i => if_pos (e1.trans h0)
      rw [e2, e3, e1, h0]
      exact missed_ok w v n f h p0 N cap0 g hp hcap h1.1 h1.2 h0
    · have e2 : mN n f N g = 0 := if_neg (e1 ▸ h0)
      have e3 : mG n f N g = fun _ => 0 := funext fun i => if_neg (e1 ▸ h0)
      rw [e2, e3, e1]
      exact missed_inv w v n f h _ N g hp h1.1 h1.2 h0
  · have e1 : mE n f N g = 1 := if_neg h1
    have e2 : mN n f N g = 0 := if_neg (by rw [e1]; decide)
    have e3 : mG n f N g = fun _ => 0 := funext fun i => if_neg (by rw [e1]; decide)
    rw [e2, e3, e1]
    exact missed_bad w v n f h _ N g hp h1
end Go.Proofs.Ytfahpjilgdlhiaa
