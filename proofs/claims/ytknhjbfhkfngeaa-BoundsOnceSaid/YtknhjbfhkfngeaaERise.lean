/- The program's rise, sink and settle of a heap; no condition but those that each row names. -/
import Derived.Test.YtknhjbfhkfngeaaESwap
import Derived.Deep.LoopGhost
namespace Go.Proofs.Ytknhjbfhkfngeaa
open Go.RowKit Go.Maps Hp

/-- What rising and sinking keep: the entries, but for their order. -/
structure Moved {α : Type} (enc : α → Value) (T E : TypeId) (B : Nat) (w : World) (L : List (Int × α)) (b g cap mb : Nat) (w' : World) (L' : List (Int × α)) : Prop where
  hw : HW enc T E B w' L' b g cap mb
  keeps : Keeps (fun x => x = g ∨ x = mb) w w'
  perm : L'.Perm L
theorem Moved.refl {α : Type} {enc : α → Value} {T E : TypeId} {B : Nat} {w : World} {L : List (Int × α)} {b g cap mb : Nat} (h : HW enc T E B w L b g cap mb) : Moved enc T E B w L b g cap mb w L := ⟨h, Keeps.refl _ _, List.Perm.refl _⟩
theorem Moved.below {α : Type} {enc : α → Value} {T E : TypeId} {B : Nat} {w w1 w2 : World} {L L1 : List (Int × α)} {b g cap mb : Nat} (h : Moved enc T E B w L b g cap mb w1 L1) (k : Below w1.heap.size w1 w2) : Moved enc T E B w L b g cap mb w2 L1 :=
  ⟨h.hw.below k, h.keeps.trans (Keeps.of_below k), h.perm⟩
theorem Moved.trans {α : Type} {enc : α → Value} {T E : TypeId} {B : Nat} {w w1 w2 : World} {L L1 L2 : List (Int × α)} {b g cap mb : Nat} (h : Moved enc T E B w L b g cap mb w1 L1) (k : Moved enc T E B w1 L1 b g cap mb w2 L2) : Moved enc T E B w L b g cap mb w2 L2 :=
  ⟨k.hw, h.keeps.trans k.keeps, k.perm.trans h.perm⟩
theorem Moved.swap {α : Type} [Inhabited α] {enc : α → Value} {T E : TypeId} {B : Nat} {w w1 w2 : World} {L L1 : List (Int × α)} {b g cap mb i j : Nat} (h : Moved enc T E B w L b g cap mb w1 L1) (hi : i < L1.length) (hj : j < L1.length) (k : HW enc T E B w2 (sw L1 i j) b g cap mb) (kk : Keeps (fun x => x = g ∨ x = mb) w1 w2) : Moved enc T E B w L b g cap mb w2 (sw L1 i j) :=
  h.trans ⟨k, kk, sw_perm L1 i j hi hj⟩
/-- Where a rise stands. -/
def RiseAt {α : Type} [Inhabited α] (kc : α → α → Int) (enc : α → Value) (T E : TypeId) (B : Nat) (w : World) (L : List (Int × α)) (b g cap mb p : Nat) (wr : World) (L' : List (Int × α)) (q : Nat) : Prop :=
  Moved enc T E B w L b g cap mb wr L' ∧ q < L.length ∧ (q = p ∧ L' = L ∨ Up (ahB kc) (at' L') L.length q)
def RiseEnd {α : Type} [Inhabited α] (kc : α → α → Int) (enc : α → Value) (T E : TypeId) (B : Nat) (w : World) (L : List (Int × α)) (b g cap mb p : Nat) (e : Ending) (w' : World) : Prop :=
  e = .returned (.tuple #[]) ∧ ∃ L', Moved enc T E B w L b g cap mb w' L' ∧ Down (ahB kc) (at' L') L.length p
def SinkAt {α : Type} [Inhabited α] (kc : α → α → Int) (enc : α → Value) (T E : TypeId) (B : Nat) (w : World) (L : List (Int × α)) (b g cap mb : Nat) (wr : World) (L' : List (Int × α)) (q : Nat) : Prop :=
  Moved enc T E B w L b g cap mb wr L' ∧ q < L.length ∧ Down (ahB kc) (at' L') L.length q
def SinkEnd {α : Type} [Inhabited α] (kc : α → α → Int) (enc : α → Value) (T E : TypeId) (B : Nat) (w : World) (L : List (Int × α)) (b g cap mb : Nat) (e : Ending) (w' : World) : Prop :=
  e = .returned (.tuple #[]) ∧ ∃ L', Moved enc T E B w L b g cap mb w' L' ∧ Heap (ahB kc) (at' L') L.length
theorem RiseAt.fix {α : Type} [Inhabited α] {kc : α → α → Int} {enc : α → Value} {T E : TypeId} {B : Nat} {w : World} {L : List (Int × α)} {b g cap mb p : Nat} {wr : World} {L' : List (Int × α)} {q : Nat} (h : RiseAt kc enc T E B w L b g cap mb p wr L' q) (hf : Fix (ahB kc) (at' L) L.length p) : Fix (ahB kc) (at' L') L.length q := by
  rcases h.2.2 with ⟨rfl, rfl⟩ | h2
  · exact hf
  · exact h2.fix
theorem RiseAt.done {α : Type} [Inhabited α] {kc : α → α → Int} (C : Cmp kc) {enc : α → Value} {T E : TypeId} {B : Nat} {w : World} {L : List (Int × α)} {b g cap mb p : Nat} {wr : World} {L' : List (Int × α)} {q : Nat} (h : RiseAt kc enc T E B w L b g cap mb p wr L' q) (hp : p < L.length) (hf : Fix (ahB kc) (at' L) L.length p) (he : q = 0 ∨ ahB kc (at' L' q) (at' L' (par q)) = false) :
    RiseEnd kc enc T E B w L b g cap mb p (.returned (.tuple #[])) wr := by
  refine ⟨rfl, L', h.1, ?_⟩
  rcases h.2.2 with ⟨rfl, rfl⟩ | h2
  · exact fix_end hf he
  · exact (up_end h2 he).down C.ord hp

section
variable {B : Nat} {w : World} {L : List (Int × Int)} {b g cap mb : Nat}
set_option maxHeartbeats 2000000 in
set_option maxRecDepth 100000 in
theorem rise_I (h : HW enc_I HT_I NT_I B w L b g cap mb) (p : Nat) (hp : p < L.length) (hf : Fix (ahB kc_I) (at' L) L.length p) :
    Calls Try.prog 20 #[.pointer (some ⟨b, 0, none⟩), .int .i64 p] w (RiseEnd kc_I enc_I HT_I NT_I B w L b g cap mb p) := by
  have n4 := h.n4
  have HF := Lib.hid hf
  have HR0 := Lib.hid (show RiseAt kc_I enc_I HT_I NT_I B w L b g cap mb p w L p from ⟨Moved.refl h, hp, .inl ⟨rfl, rfl⟩⟩)
  clear h hf
  go_enter Try.func20, Try.ntmps20
  go_wp2_with fail
  go_loopw [1] (fun pv wr => ∃ (q : Nat) (L' : List (Int × Int)), pv = .int .i64 q ∧ q < L.length ∧ Hid (RiseAt kc_I enc_I HT_I NT_I B w L b g cap mb p wr L' q)) (fun pv _ => (intOf pv).toNat)
  case atStart => exact ⟨p, L, rfl, hp, HR0⟩
  case round =>
    obtain ⟨q, L', rfl, hq, HR⟩ := hrel
    clear HR0
    by_cases h0 : 0 < q
    · have hl : L'.length = L.length := HR.out.1.perm.length_eq
      have hpq := par_lt h0
      have HU := fun (w : World) => Lib.hid (above_any w q h0 (by omega))
      have HA := Lib.hid (ahead_I HR.out.1.hw q (par q) (by omega) (by omega) q (par q : Nat) rfl rfl)
      have h0' : (0 : Int) < (q : Int) := by omega
      by_cases ha : ahB kc_I (at' L' q) (at' L' (par q)) = true
      · rw [ha] at HA
        have HS := Lib.hid (up_step ord_I (HR.out.fix HF.out) h0 hq ha)
        clear ha
        go_wp2_with fail
        refine (HU _).out.mono ?_
        rintro e w1 ⟨rfl, rfl⟩
        go_wp2_with fail
        refine HA.out.mono ?_
        rintro e w1 ⟨rfl, hb⟩
        have HM := Lib.hid (HR.out.1.below hb)
        have HW1 := Lib.hid (swap_I HM.out.hw q (par q) (by omega) (by omega) q (par q : Nat) rfl rfl)
        clear hb
        go_wp2_with fail
        refine (HU _).out.mono ?_
        rintro e w2 ⟨rfl, rfl⟩
        go_wp2_with fail
        refine HW1.out.mono ?_
        rintro e w2 ⟨rfl, hw2, hk2⟩
        have HM2 := Lib.hid (HM.out.swap (by omega) (by omega) hw2 hk2)
        clear hw2 hk2
        go_wp2_with fail
        refine (HU _).out.mono ?_
        rintro e w3 ⟨rfl, rfl⟩
        go_wp2_with fail
        go_roundw
        case rel =>
          refine ⟨par q, sw L' q (par q), rfl, by omega, Lib.hid ⟨HM2.out, by omega, .inr ?_⟩⟩
          rw [at_sw_fun _ _ _ (by omega) (by omega)]
          exact HS.out
        case measure => simp [intOf]; omega
      · have ha' : ahB kc_I (at' L' q) (at' L' (par q)) = false := by simpa using ha
        have HD := fun (w1 : World) (hb : Below wr.heap.size wr w1) => Lib.hid (RiseAt.done cmp_I (wr := w1) (show RiseAt kc_I enc_I HT_I NT_I B w L b g cap mb p w1 L' q from ⟨HR.out.1.below hb, HR.out.2⟩) hp HF.out (.inr ha'))
        rw [ha'] at HA
        clear ha ha'
        go_wp2_with fail
        refine (HU _).out.mono ?_
        rintro e w1 ⟨rfl, rfl⟩
        go_wp2_with fail
        refine HA.out.mono ?_
        rintro e w1 ⟨rfl, hb⟩
        have HE := HD w1 hb
        clear hb HD
        go_wp2_with fail
        go_end0
        exact HE.out
    · obtain rfl : q = 0 := by omega
      have HE := Lib.hid (RiseAt.done cmp_I HR.out hp HF.out (.inl rfl))
      clear h0
      go_wp2_with fail
      go_end0
      exact HE.out
end
/-- The kid that is taken: the first of what hangs below. -/
def Kid {α : Type} [Inhabited α] (kc : α → α → Int) (L : List (Int × α)) (q c : Nat) : Prop := c < L.length ∧ 0 < c ∧ par c = q ∧ ∀ i, 0 < i → i < L.length → par i = q → le (ahB kc) (at' L c) (at' L i)
theorem kid_only {α : Type} [Inhabited α] {kc : α → α → Int} (C : Cmp kc) {L : List (Int × α)} {q : Nat} (h1 : 2 * q + 1 < L.length) (h2 : ¬ 2 * q + 2 < L.length) : Kid kc L q (2 * q + 1) :=
  ⟨h1, by omega, by unfold par; omega, fun i h0 hi hp => by rw [par_kid h0] at hp; obtain rfl : i = 2 * q + 1 := by omega
                                                            exact C.ord.refl _⟩
theorem kid_left {α : Type} [Inhabited α] {kc : α → α → Int} (C : Cmp kc) {L : List (Int × α)} {q : Nat} (h1 : 2 * q + 1 < L.length) (h2 : ahB kc (at' L (2 * q + 2)) (at' L (2 * q + 1)) = false) : Kid kc L q (2 * q + 1) :=
  ⟨h1, by omega, by unfold par; omega, fun i h0 hi hp => by
    rw [par_kid h0] at hp
    rcases hp with rfl | rfl
    · exact C.ord.refl _
    · exact h2⟩
theorem kid_right {α : Type} [Inhabited α] {kc : α → α → Int} (C : Cmp kc) {L : List (Int × α)} {q : Nat} (h1 : 2 * q + 2 < L.length) (h2 : ahB kc (at' L (2 * q + 2)) (at' L (2 * q + 1)) = true) : Kid kc L q (2 * q + 2) :=
  ⟨h1, by omega, by unfold par; omega, fun i h0 hi hp => by
    rw [par_kid h0] at hp
    rcases hp with rfl | rfl
    · exact C.ord.le_of h2
    · exact C.ord.refl _⟩

section
variable {B : Nat} {w : World} {L : List (Int × Int)} {b g cap mb : Nat}
theorem HW.len0_I (h : HW enc_I HT_I NT_I B w L b g cap mb) {n : Nat} (hn : L.length = n) : w.cell? ⟨b, 0, none⟩ = some (.slice (some ⟨g, 0, none⟩) n cap) := hn ▸ h.f0
theorem SinkAt.done_I {wr w1 : World} {L' : List (Int × Int)} {q : Nat} (h : SinkAt kc_I enc_I HT_I NT_I B w L b g cap mb wr L' q) (hk : Moved enc_I HT_I NT_I B w L b g cap mb w1 L') (he : L.length ≤ 2 * q + 1 ∨ ∃ c, Kid kc_I L' q c ∧ ahB kc_I (at' L' c) (at' L' q) = false) :
    SinkEnd kc_I enc_I HT_I NT_I B w L b g cap mb (.returned (.tuple #[])) w1 := by
  refine ⟨rfl, L', hk, ?_⟩
  rcases he with he | ⟨c, hc, ha⟩
  · exact h.2.2.leaf he
  · have hl := h.1.perm.length_eq
    exact down_end h.2.2 fun i h0 hi hp => ord_I.le_trans (show le (ahB kc_I) (at' L' q) (at' L' c) from ha) (hc.2.2.2 i h0 (by omega) hp)
set_option maxHeartbeats 4000000 in
set_option maxRecDepth 100000 in
theorem sink_I (h : HW enc_I HT_I NT_I B w L b g cap mb) (p : Nat) (hp : p < L.length) (hf : Down (ahB kc_I) (at' L) L.length p) :
    Calls Try.prog 22 #[.pointer (some ⟨b, 0, none⟩), .int .i64 p] w (SinkEnd kc_I enc_I HT_I NT_I B w L b g cap mb) := by
  have n4 := h.n4
  have HR0 := Lib.hid (show SinkAt kc_I enc_I HT_I NT_I B w L b g cap mb w L p from ⟨Moved.refl h, hp, hf⟩)
  clear h hf
  go_enter Try.func22, Try.ntmps22
  go_wp2_with fail
  go_loopw [1] (fun pv wr => ∃ (q : Nat) (L' : List (Int × Int)), pv = .int .i64 q ∧ q < L.length ∧ Hid (SinkAt kc_I enc_I HT_I NT_I B w L b g cap mb wr L' q)) (fun pv _ => (L.length - (intOf pv).toNat))
  case atStart => exact ⟨p, L, rfl, hp, HR0⟩
  case round =>
    obtain ⟨q, L', rfl, hq, HR⟩ := hrel
    clear HR0
    have hl : L'.length = L.length := HR.out.1.perm.length_eq
    have HL := Lib.hid hl
    have HB := fun (w : World) => Lib.hid (below_any w q (by omega))
    have f0 := HR.out.1.hw.len0_I hl
    clear hl
    by_cases h1 : 2 * q + 1 < L.length
    · have h1' : 2 * (q : Int) + 1 < (L.length : Int) := by omega
      go_wp2_with fail
      go_quiet ((go_at_call 27; exact Calls.quiet_of_same ((HB _).out.mono fun _ _ h => ⟨h.1, h.2.symm⟩)))
      have HMw := Lib.hid (HR.out.1.below (w2 := wr.drewN nq) (below_drewN (Below.refl _ _) _))
      by_cases h2 : 2 * q + 2 < L.length
      · have h2' : 2 * (q : Int) + 1 + 1 < (L.length : Int) := by omega
        have HA := fun (w2 : World) (hm : Moved enc_I HT_I NT_I B w L b g cap mb w2 L') => Lib.hid (ahead_I hm.hw (2 * q + 2) (2 * q + 1) (by have := HL.out; omega) (by have := HL.out; omega) (2 * (q : Int) + 1 + 1) (2 * (q : Int) + 1) (by omega) (by omega))
        by_cases ha : ahB kc_I (at' L' (2 * q + 2)) (at' L' (2 * q + 1)) = true
        · rw [ha] at HA
          have HKid := Lib.hid (kid_right cmp_I (L := L') (q := q) (by have := HL.out; omega) ha)
          obtain ⟨c, Hc, HKid⟩ : ∃ c : Nat, Hid (2 * (q : Int) + 1 + 1 = (c : Int)) ∧ Hid (Kid kc_I L' q c) := ⟨2 * q + 2, Lib.hid (by omega), HKid⟩
          clear ha
          go_wp2_with fail
          refine (HB _).out.mono ?_
          rintro e w1 ⟨rfl, rfl⟩
          have f0' : (wr.drewN nq).cell? ⟨b, 0, none⟩ = some (.slice (some ⟨g, 0, none⟩) L.length cap) := f0
          go_wp2_with fail
          refine (HA _ HMw.out).out.mono ?_
          rintro e w2 ⟨rfl, hb2⟩
          replace HMw := Lib.hid (HMw.out.below hb2)
          clear hb2 HA f0 f0'
          go_wp2_with fail
          have hcl := HKid.out.1
          have HA2 := fun (w2 : World) (hm : Moved enc_I HT_I NT_I B w L b g cap mb w2 L') (ii : Int) (hii : ii = c) => Lib.hid (ahead_I hm.hw c q hcl (by have := HL.out; omega) ii (q : Int) hii rfl)
          have hcL : c < L.length := by have := HL.out; omega
          clear hcl
          by_cases ha2 : ahB kc_I (at' L' c) (at' L' q) = true
          · rw [ha2] at HA2
            have HS := Lib.hid (down_step ord_I HR.out.2.2 hcL HKid.out.2.1 HKid.out.2.2.1 (fun i h0 hi hp => HKid.out.2.2.2 i h0 (by have := HL.out; omega) hp) ha2)
            clear ha2
            go_wp2_with fail
            refine (HA2 _ HMw.out _ Hc.out).out.mono ?_
            rintro e w3 ⟨rfl, hb3⟩
            have HM3 := Lib.hid (HMw.out.below hb3)
            have HW3 := fun (jj : Int) (hjj : jj = c) => Lib.hid (swap_I HM3.out.hw q c (by have := HL.out; omega) (by have := HL.out; omega) q jj rfl hjj)
            clear hb3 HMw HA2
            go_wp2_with fail
            refine (HW3 _ Hc.out).out.mono ?_
            rintro e w4 ⟨rfl, hw4, hk4⟩
            have HM4 := Lib.hid (HM3.out.swap (by have := HL.out; omega) (by have := HL.out; omega) hw4 hk4)
            clear hw4 hk4 HW3
            go_wp2_with fail
            go_roundw
            case rel =>
              refine ⟨c, sw L' q c, by rw [Hc.out], hcL, Lib.hid ⟨HM4.out, hcL, ?_⟩⟩
              rw [at_sw_fun _ _ _ (by have := HL.out; omega) (by have := HL.out; omega)]
              exact HS.out
            case measure => have := Hc.out; simp [intOf]; omega
          · have ha2' : ahB kc_I (at' L' c) (at' L' q) = false := by simpa using ha2
            have HE := fun (w2 : World) (hm : Moved enc_I HT_I NT_I B w L b g cap mb w2 L') => Lib.hid (HR.out.done_I hm (.inr ⟨c, HKid.out, ha2'⟩))
            rw [ha2'] at HA2
            clear ha2 ha2'
            go_wp2_with fail
            refine (HA2 _ HMw.out _ Hc.out).out.mono ?_
            rintro e w3 ⟨rfl, hb3⟩
            have HE3 := HE _ (HMw.out.below hb3)
            clear hb3 HMw HA2 HE
            go_wp2_with fail
            go_end0
            exact HE3.out
        · have ha' : ahB kc_I (at' L' (2 * q + 2)) (at' L' (2 * q + 1)) = false := by simpa using ha
          rw [ha'] at HA
          have HKid := Lib.hid (kid_left cmp_I (L := L') (q := q) (by have := HL.out; omega) ha')
          obtain ⟨c, Hc, HKid⟩ : ∃ c : Nat, Hid (2 * (q : Int) + 1 = (c : Int)) ∧ Hid (Kid kc_I L' q c) := ⟨2 * q + 1, Lib.hid (by omega), HKid⟩
          clear ha ha'
          go_wp2_with fail
          refine (HB _).out.mono ?_
          rintro e w1 ⟨rfl, rfl⟩
          have f0' : (wr.drewN nq).cell? ⟨b, 0, none⟩ = some (.slice (some ⟨g, 0, none⟩) L.length cap) := f0
          go_wp2_with fail
          refine (HA _ HMw.out).out.mono ?_
          rintro e w2 ⟨rfl, hb2⟩
          replace HMw := Lib.hid (HMw.out.below hb2)
          clear hb2 HA f0 f0'
          go_wp2_with fail
          have hcl := HKid.out.1
          have HA2 := fun (w2 : World) (hm : Moved enc_I HT_I NT_I B w L b g cap mb w2 L') (ii : Int) (hii : ii = c) => Lib.hid (ahead_I hm.hw c q hcl (by have := HL.out; omega) ii (q : Int) hii rfl)
          have hcL : c < L.length := by have := HL.out; omega
          clear hcl
          by_cases ha2 : ahB kc_I (at' L' c) (at' L' q) = true
          · rw [ha2] at HA2
            have HS := Lib.hid (down_step ord_I HR.out.2.2 hcL HKid.out.2.1 HKid.out.2.2.1 (fun i h0 hi hp => HKid.out.2.2.2 i h0 (by have := HL.out; omega) hp) ha2)
            clear ha2
            go_wp2_with fail
            refine (HA2 _ HMw.out _ Hc.out).out.mono ?_
            rintro e w3 ⟨rfl, hb3⟩
            have HM3 := Lib.hid (HMw.out.below hb3)
            have HW3 := fun (jj : Int) (hjj : jj = c) => Lib.hid (swap_I HM3.out.hw q c (by have := HL.out; omega) (by have := HL.out; omega) q jj rfl hjj)
            clear hb3 HMw HA2
            go_wp2_with fail
            refine (HW3 _ Hc.out).out.mono ?_
            rintro e w4 ⟨rfl, hw4, hk4⟩
            have HM4 := Lib.hid (HM3.out.swap (by have := HL.out; omega) (by have := HL.out; omega) hw4 hk4)
            clear hw4 hk4 HW3
            go_wp2_with fail
            go_roundw
            case rel =>
              refine ⟨c, sw L' q c, by rw [Hc.out], hcL, Lib.hid ⟨HM4.out, hcL, ?_⟩⟩
              rw [at_sw_fun _ _ _ (by have := HL.out; omega) (by have := HL.out; omega)]
              exact HS.out
            case measure => have := Hc.out; simp [intOf]; omega
          · have ha2' : ahB kc_I (at' L' c) (at' L' q) = false := by simpa using ha2
            have HE := fun (w2 : World) (hm : Moved enc_I HT_I NT_I B w L b g cap mb w2 L') => Lib.hid (HR.out.done_I hm (.inr ⟨c, HKid.out, ha2'⟩))
            rw [ha2'] at HA2
            clear ha2 ha2'
            go_wp2_with fail
            refine (HA2 _ HMw.out _ Hc.out).out.mono ?_
            rintro e w3 ⟨rfl, hb3⟩
            have HE3 := HE _ (HMw.out.below hb3)
            clear hb3 HMw HA2 HE
            go_wp2_with fail
            go_end0
            exact HE3.out
      · have h2' : decide (2 * (q : Int) + 1 + 1 < (L.length : Int)) = false := decide_eq_false (by omega)
        have HKid := Lib.hid (kid_only cmp_I (L := L') (q := q) (by have := HL.out; omega) (by have := HL.out; omega))
        obtain ⟨c, Hc, HKid⟩ : ∃ c : Nat, Hid (2 * (q : Int) + 1 = (c : Int)) ∧ Hid (Kid kc_I L' q c) := ⟨2 * q + 1, Lib.hid (by omega), HKid⟩
        go_wp2_with fail
        refine (HB _).out.mono ?_
        rintro e w1 ⟨rfl, rfl⟩
        have f0' : (wr.drewN nq).cell? ⟨b, 0, none⟩ = some (.slice (some ⟨g, 0, none⟩) L.length cap) := f0
        go_wp2_with fail
        clear f0 f0'
        have hcl := HKid.out.1
        have HA2 := fun (w2 : World) (hm : Moved enc_I HT_I NT_I B w L b g cap mb w2 L') (ii : Int) (hii : ii = c) => Lib.hid (ahead_I hm.hw c q hcl (by have := HL.out; omega) ii (q : Int) hii rfl)
        have hcL : c < L.length := by have := HL.out; omega
        clear hcl
        by_cases ha2 : ahB kc_I (at' L' c) (at' L' q) = true
        · rw [ha2] at HA2
          have HS := Lib.hid (down_step ord_I HR.out.2.2 hcL HKid.out.2.1 HKid.out.2.2.1 (fun i h0 hi hp => HKid.out.2.2.2 i h0 (by have := HL.out; omega) hp) ha2)
          clear ha2
          go_wp2_with fail
          refine (HA2 _ HMw.out _ Hc.out).out.mono ?_
          rintro e w3 ⟨rfl, hb3⟩
          have HM3 := Lib.hid (HMw.out.below hb3)
          have HW3 := fun (jj : Int) (hjj : jj = c) => Lib.hid (swap_I HM3.out.hw q c (by have := HL.out; omega) (by have := HL.out; omega) q jj rfl hjj)
          clear hb3 HMw HA2
          go_wp2_with fail
          refine (HW3 _ Hc.out).out.mono ?_
          rintro e w4 ⟨rfl, hw4, hk4⟩
          have HM4 := Lib.hid (HM3.out.swap (by have := HL.out; omega) (by have := HL.out; omega) hw4 hk4)
          clear hw4 hk4 HW3
          go_wp2_with fail
          go_roundw
          case rel =>
            refine ⟨c, sw L' q c, by rw [Hc.out], hcL, Lib.hid ⟨HM4.out, hcL, ?_⟩⟩
            rw [at_sw_fun _ _ _ (by have := HL.out; omega) (by have := HL.out; omega)]
            exact HS.out
          case measure => have := Hc.out; simp [intOf]; omega
        · have ha2' : ahB kc_I (at' L' c) (at' L' q) = false := by simpa using ha2
          have HE := fun (w2 : World) (hm : Moved enc_I HT_I NT_I B w L b g cap mb w2 L') => Lib.hid (HR.out.done_I hm (.inr ⟨c, HKid.out, ha2'⟩))
          rw [ha2'] at HA2
          clear ha2 ha2'
          go_wp2_with fail
          refine (HA2 _ HMw.out _ Hc.out).out.mono ?_
          rintro e w3 ⟨rfl, hb3⟩
          have HE3 := HE _ (HMw.out.below hb3)
          clear hb3 HMw HA2 HE
          go_wp2_with fail
          go_end0
          exact HE3.out
    · have h1' : ¬ 2 * (q : Int) + 1 < (L.length : Int) := by omega
      have HE := fun nq => Lib.hid (HR.out.done_I (HR.out.1.below (w2 := wr.drewN nq) (below_drewN (Below.refl _ _) _)) (.inl (by omega)))
      go_wp2_with fail
      go_quiet ((go_at_call 27; exact Calls.quiet_of_same ((HB _).out.mono fun _ _ h => ⟨h.1, h.2.symm⟩)))
      go_wp2_with fail
      go_end0
      exact (HE _).out
/-- settle: whatever stands wrong at p alone. -/
theorem settle_I (h : HW enc_I HT_I NT_I B w L b g cap mb) (p : Nat) (hp : p < L.length) (hf : Fix (ahB kc_I) (at' L) L.length p) :
    Calls Try.prog 19 #[.pointer (some ⟨b, 0, none⟩), .int .i64 p] w (SinkEnd kc_I enc_I HT_I NT_I B w L b g cap mb) := by
  have HR := Lib.hid (rise_I h p hp hf)
  clear h hf
  go_enter Try.func19, Try.ntmps19
  go_wp2_with fail
  refine HR.out.mono ?_
  rintro e w1 ⟨rfl, L1, hm, hd⟩
  have hl := hm.perm.length_eq
  have HS := Lib.hid (sink_I hm.hw p (by omega) (hl ▸ hd))
  have HM := Lib.hid hm
  have HL := Lib.hid hl
  clear hm hl hd
  go_wp2_with fail
  refine HS.out.mono ?_
  rintro e w2 ⟨rfl, L2, hm2, hh⟩
  have HE := Lib.hid (show SinkEnd kc_I enc_I HT_I NT_I B w L b g cap mb (.returned (.tuple #[])) w2 from ⟨rfl, L2, HM.out.trans hm2, HL.out ▸ hh⟩)
  clear hm2 hh
  go_wp2_with fail
  go_end0
  exact HE.out
end
end Go.Proofs.Ytknhjbfhkfngeaa
