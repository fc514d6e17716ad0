/- The program's rise, sink and settle of a heap of strings; no condition but those that each row names. -/
import Derived.Test.YtodcnlmodoahjaaESwapS
import Derived.Test.YtodcnlmodoahjaaERise
import Derived.Deep.LoopGhost
namespace Go.Proofs.Ytodcnlmodoahjaa
open Go.RowKit Go.Maps Hp


section
variable {B : Nat} {w : World} {L : List (Int × ByteArray)} {b g cap mb : Nat}
set_option maxHeartbeats 2000000 in
set_option maxRecDepth 100000 in
theorem rise_S (h : HW enc_S HT_S NT_S B w L b g cap mb) (p : Nat) (hp : p < L.length) (hf : Fix (ahB kc_S) (at' L) L.length p) :
    Calls Try.prog 23 #[.pointer (some ⟨b, 0, none⟩), .int .i64 p] w (RiseEnd kc_S enc_S HT_S NT_S B w L b g cap mb p) := by
  have n4 := h.n4
  have HF := Lib.hid hf
  have HR0 := Lib.hid (show RiseAt kc_S enc_S HT_S NT_S B w L b g cap mb p w L p from ⟨Moved.refl h, hp, .inl ⟨rfl, rfl⟩⟩)
  clear h hf
  go_enter Try.func23, Try.ntmps23
  go_wp2_with fail
  go_loopw [1] (fun pv wr => ∃ (q : Nat) (L' : List (Int × ByteArray)), pv = .int .i64 q ∧ q < L.length ∧ Hid (RiseAt kc_S enc_S HT_S NT_S B w L b g cap mb p wr L' q)) (fun pv _ => (intOf pv).toNat)
  case atStart => exact ⟨p, L, rfl, hp, HR0⟩
  case round =>
    obtain ⟨q, L', rfl, hq, HR⟩ := hrel
    clear HR0
    by_cases h0 : 0 < q
    · have hl : L'.length = L.length := HR.out.1.perm.length_eq
      have hpq := par_lt h0
      have HU := fun (w : World) => Lib.hid (above_any w q h0 (by omega))
      have HA := Lib.hid (ahead_S HR.out.1.hw q (par q) (by omega) (by omega) q (par q : Nat) rfl rfl)
      have h0' : (0 : Int) < (q : Int) := by omega
      by_cases ha : ahB kc_S (at' L' q) (at' L' (par q)) = true
      · rw [ha] at HA
        have HS := Lib.hid (up_step ord_S (HR.out.fix HF.out) h0 hq ha)
        clear ha
        go_wp2_with fail
        refine (HU _).out.mono ?_
        rintro e w1 ⟨rfl, rfl⟩
        go_wp2_with fail
        refine HA.out.mono ?_
        rintro e w1 ⟨rfl, hb⟩
        have HM := Lib.hid (HR.out.1.below hb)
        have HW1 := Lib.hid (swap_S HM.out.hw q (par q) (by omega) (by omega) q (par q : Nat) rfl rfl)
        clear hb
        go_wp2_with fail
        refine (HU _).out.mono ?_
        rintro e w2 ⟨rfl, rfl⟩
        go_wp2_with fail
        refine HW1.out.mono ?_
        rintro e w2 ⟨rfl, hw2, hk2⟩
        have HM2 := Lib.hid (HM.out.swap (by omega) (by omega) hw2 hk2)
        clear hw2 hk2
        go_wp2_with fail
        refine (HU _).out.mono ?_
        rintro e w3 ⟨rfl, rfl⟩
        go_wp2_with fail
        go_roundw
        case rel =>
          refine ⟨par q, sw L' q (par q), rfl, by omega, Lib.hid ⟨HM2.out, by omega, .inr ?_⟩⟩
          rw [at_sw_fun _ _ _ (by omega) (by omega)]
          exact HS.out
        case measure => simp [intOf]; omega
      · have ha' : ahB kc_S (at' L' q) (at' L' (par q)) = false := by simpa using ha
        have HD := fun (w1 : World) (hb : Below wr.heap.size wr w1) => Lib.hid (RiseAt.done cmp_S (wr := w1) (show RiseAt kc_S enc_S HT_S NT_S B w L b g cap mb p w1 L' q from ⟨HR.out.1.below hb, HR.out.2⟩) hp HF.out (.inr ha'))
        rw [ha'] at HA
        clear ha ha'
        go_wp2_with fail
        refine (HU _).out.mono ?_
        rintro e w1 ⟨rfl, rfl⟩
        go_wp2_with fail
        refine HA.out.mono ?_
        rintro e w1 ⟨rfl, hb⟩
        have HE := HD w1 hb
        clear hb HD
        go_wp2_with fail
        go_end0
        exact HE.out
    · obtain rfl : q = 0 := by omega
      have HE := Lib.hid (RiseAt.done cmp_S HR.out hp HF.out (.inl rfl))
      clear h0
      go_wp2_with fail
      go_end0
      exact HE.out
end

section
variable {B : Nat} {w : World} {L : List (Int × ByteArray)} {b g cap mb : Nat}
theorem HW.len0_S (h : HW enc_S HT_S NT_S B w L b g cap mb) {n : Nat} (hn : L.length = n) : w.cell? ⟨b, 0, none⟩ = some (.slice (some ⟨g, 0, none⟩) n cap) := hn ▸ h.f0
theorem SinkAt.done_S {wr w1 : World} {L' : List (Int × ByteArray)} {q : Nat} (h : SinkAt kc_S enc_S HT_S NT_S B w L b g cap mb wr L' q) (hk : Moved enc_S HT_S NT_S B w L b g cap mb w1 L') (he : L.length ≤ 2 * q + 1 ∨ ∃ c, Kid kc_S L' q c ∧ ahB kc_S (at' L' c) (at' L' q) = false) :
    SinkEnd kc_S enc_S HT_S NT_S B w L b g cap mb (.returned (.tuple #[])) w1 := by
  refine ⟨rfl, L', hk, ?_⟩
  rcases he with he | ⟨c, hc, ha⟩
  · exact h.2.2.leaf he
  · have hl := h.1.perm.length_eq
    exact down_end h.2.2 fun i h0 hi hp => ord_S.le_trans (show le (ahB kc_S) (at' L' q) (at' L' c) from ha) (hc.2.2.2 i h0 (by omega) hp)
set_option maxHeartbeats 4000000 in
set_option maxRecDepth 100000 in
theorem sink_S (h : HW enc_S HT_S NT_S B w L b g cap mb) (p : Nat) (hp : p < L.length) (hf : Down (ahB kc_S) (at' L) L.length p) :
    Calls Try.prog 51 #[.pointer (some ⟨b, 0, none⟩), .int .i64 p] w (SinkEnd kc_S enc_S HT_S NT_S B w L b g cap mb) := by
  have n4 := h.n4
  have HR0 := Lib.hid (show SinkAt kc_S enc_S HT_S NT_S B w L b g cap mb w L p from ⟨Moved.refl h, hp, hf⟩)
  clear h hf
  go_enter Try.func51, Try.ntmps51
  go_wp2_with fail
  go_loopw [1] (fun pv wr => ∃ (q : Nat) (L' : List (Int × ByteArray)), pv = .int .i64 q ∧ q < L.length ∧ Hid (SinkAt kc_S enc_S HT_S NT_S B w L b g cap mb wr L' q)) (fun pv _ => (L.length - (intOf pv).toNat))
  case atStart => exact ⟨p, L, rfl, hp, HR0⟩
  case round =>
    obtain ⟨q, L', rfl, hq, HR⟩ := hrel
    clear HR0
    have hl : L'.length = L.length := HR.out.1.perm.length_eq
    have HL := Lib.hid hl
    have HB := fun (w : World) => Lib.hid (below_any w q (by omega))
    have f0 := HR.out.1.hw.len0_S hl
    clear hl
    by_cases h1 : 2 * q + 1 < L.length
    · have h1' : 2 * (q : Int) + 1 < (L.length : Int) := by omega
      go_wp2_with fail
      go_quiet ((go_at_call 57; exact Calls.quiet_of_same ((HB _).out.mono fun _ _ h => ⟨h.1, h.2.symm⟩)))
      have HMw := Lib.hid (HR.out.1.below (w2 := wr.drewN nq) (below_drewN (Below.refl _ _) _))
      by_cases h2 : 2 * q + 2 < L.length
      · have h2' : 2 * (q : Int) + 1 + 1 < (L.length : Int) := by omega
        have HA := fun (w2 : World) (hm : Moved enc_S HT_S NT_S B w L b g cap mb w2 L') => Lib.hid (ahead_S hm.hw (2 * q + 2) (2 * q + 1) (by have := HL.out; omega) (by have := HL.out; omega) (2 * (q : Int) + 1 + 1) (2 * (q : Int) + 1) (by omega) (by omega))
        by_cases ha : ahB kc_S (at' L' (2 * q + 2)) (at' L' (2 * q + 1)) = true
        · rw [ha] at HA
          have HKid := Lib.hid (kid_right cmp_S (L := L') (q := q) (by have := HL.out; omega) ha)
          obtain ⟨c, Hc, HKid⟩ : ∃ c : Nat, Hid (2 * (q : Int) + 1 + 1 = (c : Int)) ∧ Hid (Kid kc_S L' q c) := ⟨2 * q + 2, Lib.hid (by omega), HKid⟩
          clear ha
          go_wp2_with fail
          refine (HB _).out.mono ?_
          rintro e w1 ⟨rfl, rfl⟩
          have f0' : (wr.drewN nq).cell? ⟨b, 0, none⟩ = some (.slice (some ⟨g, 0, none⟩) L.length cap) := f0
          go_wp2_with fail
          refine (HA _ HMw.out).out.mono ?_
          rintro e w2 ⟨rfl, hb2⟩
          replace HMw := Lib.hid (HMw.out.below hb2)
          clear hb2 HA f0 f0'
          go_wp2_with fail
          have hcl := HKid.out.1
          have HA2 := fun (w2 : World) (hm : Moved enc_S HT_S NT_S B w L b g cap mb w2 L') (ii : Int) (hii : ii = c) => Lib.hid (ahead_S hm.hw c q hcl (by have := HL.out; omega) ii (q : Int) hii rfl)
          have hcL : c < L.length := by have := HL.out; omega
          clear hcl
          by_cases ha2 : ahB kc_S (at' L' c) (at' L' q) = true
          · rw [ha2] at HA2
            have HS := Lib.hid (down_step ord_S HR.out.2.2 hcL HKid.out.2.1 HKid.out.2.2.1 (fun i h0 hi hp => HKid.out.2.2.2 i h0 (by have := HL.out; omega) hp) ha2)
            clear ha2
            go_wp2_with fail
            refine (HA2 _ HMw.out _ Hc.out).out.mono ?_
            rintro e w3 ⟨rfl, hb3⟩
            have HM3 := Lib.hid (HMw.out.below hb3)
            have HW3 := fun (jj : Int) (hjj : jj = c) => Lib.hid (swap_S HM3.out.hw q c (by have := HL.out; omega) (by have := HL.out; omega) q jj rfl hjj)
            clear hb3 HMw HA2
            go_wp2_with fail
            refine (HW3 _ Hc.out).out.mono ?_
            rintro e w4 ⟨rfl, hw4, hk4⟩
            have HM4 := Lib.hid (HM3.out.swap (by have := HL.out; omega) (by have := HL.out; omega) hw4 hk4)
            clear hw4 hk4 HW3
            go_wp2_with fail
            go_roundw
            case rel =>
              refine ⟨c, sw L' q c, by rw [Hc.out], hcL, Lib.hid ⟨HM4.out, hcL, ?_⟩⟩
              rw [at_sw_fun _ _ _ (by have := HL.out; omega) (by have := HL.out; omega)]
              exact HS.out
            case measure => have := Hc.out; simp [intOf]; omega
          · have ha2' : ahB kc_S (at' L' c) (at' L' q) = false := by simpa using ha2
            have HE := fun (w2 : World) (hm : Moved enc_S HT_S NT_S B w L b g cap mb w2 L') => Lib.hid (HR.out.done_S hm (.inr ⟨c, HKid.out, ha2'⟩))
            rw [ha2'] at HA2
            clear ha2 ha2'
            go_wp2_with fail
            refine (HA2 _ HMw.out _ Hc.out).out.mono ?_
            rintro e w3 ⟨rfl, hb3⟩
            have HE3 := HE _ (HMw.out.below hb3)
            clear hb3 HMw HA2 HE
            go_wp2_with fail
            go_end0
            exact HE3.out
        · have ha' : ahB kc_S (at' L' (2 * q + 2)) (at' L' (2 * q + 1)) = false := by simpa using ha
          rw [ha'] at HA
          have HKid := Lib.hid (kid_left cmp_S (L := L') (q := q) (by have := HL.out; omega) ha')
          obtain ⟨c, Hc, HKid⟩ : ∃ c : Nat, Hid (2 * (q : Int) + 1 = (c : Int)) ∧ Hid (Kid kc_S L' q c) := ⟨2 * q + 1, Lib.hid (by omega), HKid⟩
          clear ha ha'
          go_wp2_with fail
          refine (HB _).out.mono ?_
          rintro e w1 ⟨rfl, rfl⟩
          have f0' : (wr.drewN nq).cell? ⟨b, 0, none⟩ = some (.slice (some ⟨g, 0, none⟩) L.length cap) := f0
          go_wp2_with fail
          refine (HA _ HMw.out).out.mono ?_
          rintro e w2 ⟨rfl, hb2⟩
          replace HMw := Lib.hid (HMw.out.below hb2)
          clear hb2 HA f0 f0'
          go_wp2_with fail
          have hcl := HKid.out.1
          have HA2 := fun (w2 : World) (hm : Moved enc_S HT_S NT_S B w L b g cap mb w2 L') (ii : Int) (hii : ii = c) => Lib.hid (ahead_S hm.hw c q hcl (by have := HL.out; omega) ii (q : Int) hii rfl)
          have hcL : c < L.length := by have := HL.out; omega
          clear hcl
          by_cases ha2 : ahB kc_S (at' L' c) (at' L' q) = true
          · rw [ha2] at HA2
            have HS := Lib.hid (down_step ord_S HR.out.2.2 hcL HKid.out.2.1 HKid.out.2.2.1 (fun i h0 hi hp => HKid.out.2.2.2 i h0 (by have := HL.out; omega) hp) ha2)
            clear ha2
            go_wp2_with fail
            refine (HA2 _ HMw.out _ Hc.out).out.mono ?_
            rintro e w3 ⟨rfl, hb3⟩
            have HM3 := Lib.hid (HMw.out.below hb3)
            have HW3 := fun (jj : Int) (hjj : jj = c) => Lib.hid (swap_S HM3.out.hw q c (by have := HL.out; omega) (by have := HL.out; omega) q jj rfl hjj)
            clear hb3 HMw HA2
            go_wp2_with fail
            refine (HW3 _ Hc.out).out.mono ?_
            rintro e w4 ⟨rfl, hw4, hk4⟩
            have HM4 := Lib.hid (HM3.out.swap (by have := HL.out; omega) (by have := HL.out; omega) hw4 hk4)
            clear hw4 hk4 HW3
            go_wp2_with fail
            go_roundw
            case rel =>
              refine ⟨c, sw L' q c, by rw [Hc.out], hcL, Lib.hid ⟨HM4.out, hcL, ?_⟩⟩
              rw [at_sw_fun _ _ _ (by have := HL.out; omega) (by have := HL.out; omega)]
              exact HS.out
            case measure => have := Hc.out; simp [intOf]; omega
          · have ha2' : ahB kc_S (at' L' c) (at' L' q) = false := by simpa using ha2
            have HE := fun (w2 : World) (hm : Moved enc_S HT_S NT_S B w L b g cap mb w2 L') => Lib.hid (HR.out.done_S hm (.inr ⟨c, HKid.out, ha2'⟩))
            rw [ha2'] at HA2
            clear ha2 ha2'
            go_wp2_with fail
            refine (HA2 _ HMw.out _ Hc.out).out.mono ?_
            rintro e w3 ⟨rfl, hb3⟩
            have HE3 := HE _ (HMw.out.below hb3)
            clear hb3 HMw HA2 HE
            go_wp2_with fail
            go_end0
            exact HE3.out
      · have h2' : decide (2 * (q : Int) + 1 + 1 < (L.length : Int)) = false := decide_eq_false (by omega)
        have HKid := Lib.hid (kid_only cmp_S (L := L') (q := q) (by have := HL.out; omega) (by have := HL.out; omega))
        obtain ⟨c, Hc, HKid⟩ : ∃ c : Nat, Hid (2 * (q : Int) + 1 = (c : Int)) ∧ Hid (Kid kc_S L' q c) := ⟨2 * q + 1, Lib.hid (by omega), HKid⟩
        go_wp2_with fail
        refine (HB _).out.mono ?_
        rintro e w1 ⟨rfl, rfl⟩
        have f0' : (wr.drewN nq).cell? ⟨b, 0, none⟩ = some (.slice (some ⟨g, 0, none⟩) L.length cap) := f0
        go_wp2_with fail
        clear f0 f0'
        have hcl := HKid.out.1
        have HA2 := fun (w2 : World) (hm : Moved enc_S HT_S NT_S B w L b g cap mb w2 L') (ii : Int) (hii : ii = c) => Lib.hid (ahead_S hm.hw c q hcl (by have := HL.out; omega) ii (q : Int) hii rfl)
        have hcL : c < L.length := by have := HL.out; omega
        clear hcl
        by_cases ha2 : ahB kc_S (at' L' c) (at' L' q) = true
        · rw [ha2] at HA2
          have HS := Lib.hid (down_step ord_S HR.out.2.2 hcL HKid.out.2.1 HKid.out.2.2.1 (fun i h0 hi hp => HKid.out.2.2.2 i h0 (by have := HL.out; omega) hp) ha2)
          clear ha2
          go_wp2_with fail
          refine (HA2 _ HMw.out _ Hc.out).out.mono ?_
          rintro e w3 ⟨rfl, hb3⟩
          have HM3 := Lib.hid (HMw.out.below hb3)
          have HW3 := fun (jj : Int) (hjj : jj = c) => Lib.hid (swap_S HM3.out.hw q c (by have := HL.out; omega) (by have := HL.out; omega) q jj rfl hjj)
          clear hb3 HMw HA2
          go_wp2_with fail
          refine (HW3 _ Hc.out).out.mono ?_
          rintro e w4 ⟨rfl, hw4, hk4⟩
          have HM4 := Lib.hid (HM3.out.swap (by have := HL.out; omega) (by have := HL.out; omega) hw4 hk4)
          clear hw4 hk4 HW3
          go_wp2_with fail
          go_roundw
          case rel =>
            refine ⟨c, sw L' q c, by rw [Hc.out], hcL, Lib.hid ⟨HM4.out, hcL, ?_⟩⟩
            rw [at_sw_fun _ _ _ (by have := HL.out; omega) (by have := HL.out; omega)]
            exact HS.out
          case measure => have := Hc.out; simp [intOf]; omega
        · have ha2' : ahB kc_S (at' L' c) (at' L' q) = false := by simpa using ha2
          have HE := fun (w2 : World) (hm : Moved enc_S HT_S NT_S B w L b g cap mb w2 L') => Lib.hid (HR.out.done_S hm (.inr ⟨c, HKid.out, ha2'⟩))
          rw [ha2'] at HA2
          clear ha2 ha2'
          go_wp2_with fail
          refine (HA2 _ HMw.out _ Hc.out).out.mono ?_
          rintro e w3 ⟨rfl, hb3⟩
          have HE3 := HE _ (HMw.out.below hb3)
          clear hb3 HMw HA2 HE
          go_wp2_with fail
          go_end0
          exact HE3.out
    · have h1' : ¬ 2 * (q : Int) + 1 < (L.length : Int) := by omega
      have HE := fun nq => Lib.hid (HR.out.done_S (HR.out.1.below (w2 := wr.drewN nq) (below_drewN (Below.refl _ _) _)) (.inl (by omega)))
      go_wp2_with fail
      go_quiet ((go_at_call 57; exact Calls.quiet_of_same ((HB _).out.mono fun _ _ h => ⟨h.1, h.2.symm⟩)))
      go_wp2_with fail
      go_end0
      exact (HE _).out
/-- settle: whatever stands wrong at p alone. -/
theorem settle_S (h : HW enc_S HT_S NT_S B w L b g cap mb) (p : Nat) (hp : p < L.length) (hf : Fix (ahB kc_S) (at' L) L.length p) :
    Calls Try.prog 37 #[.pointer (some ⟨b, 0, none⟩), .int .i64 p] w (SinkEnd kc_S enc_S HT_S NT_S B w L b g cap mb) := by
  have HR := Lib.hid (rise_S h p hp hf)
  clear h hf
  go_enter Try.func37, Try.ntmps37
  go_wp2_with fail
  refine HR.out.mono ?_
  rintro e w1 ⟨rfl, L1, hm, hd⟩
  have hl := hm.perm.length_eq
  have HS := Lib.hid (sink_S hm.hw p (by omega) (hl ▸ hd))
  have HM := Lib.hid hm
  have HL := Lib.hid hl
  clear hm hl hd
  go_wp2_with fail
  refine HS.out.mono ?_
  rintro e w2 ⟨rfl, L2, hm2, hh⟩
  have HE := Lib.hid (show SinkEnd kc_S enc_S HT_S NT_S B w L b g cap mb (.returned (.tuple #[])) w2 from ⟨rfl, L2, HM.out.trans hm2, HL.out ▸ hh⟩)
  clear hm2 hh
  go_wp2_with fail
  go_end0
  exact HE.out
end
end Go.Proofs.Ytodcnlmodoahjaa
