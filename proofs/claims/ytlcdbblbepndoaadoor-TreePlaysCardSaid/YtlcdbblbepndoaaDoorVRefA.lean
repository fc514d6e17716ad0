/- The document's own tree: Place, End, up, slot; no condition but those that each row names. -/
import Derived.Test.YtlcdbblbepndoaaDoorVNodes
import Derived.Test.YtlcdbblbepndoaaDoorVRNew
namespace Go.Proofs.YtlcdbblbepndoaaDoor
open Go.RowKit

/-- The three slices of the document's table. -/
structure TS where
  p : Option Addr
  n : Nat
  c : Nat
  q : Option Addr
  m : Nat
  d : Nat
  r : Option Addr
  l : Nat
  e : Nat
/-- The document's tree by value. -/
abbrev rtv (k : Int) (s : TS) (g cap n : Nat) : Value := .agg #[.int .i64 k, .slice s.p s.n s.c, .slice s.q s.m s.d, .slice s.r s.l s.e, .slice (some ⟨g, 0, none⟩) n cap]
/-- Its nodes in a world. -/
structure RD (S : Nat → Prop) (w : World) (g cap : Nat) (L : List (Int × Int)) : Prop where
  own : Nds w (.slice (some ⟨g, 0, none⟩) L.length cap) L
  ns : ¬ S g
  pos : 0 < L.length
  le : L.length ≤ 64
theorem RD.lt {S : Nat → Prop} {w : World} {g cap : Nat} {L : List (Int × Int)} (h : RD S w g cap L) : g < w.heap.size := (World.ownsRow.lt h.own g rfl).2
theorem RD.keeps {S : Nat → Prop} {w w' : World} {g cap : Nat} {L : List (Int × Int)} (h : RD S w g cap L) (hk : Keeps S w w') : RD S w' g cap L :=
  ⟨own_keep h.own hk fun b e => by simp [Value.ownBlock] at e; subst e; exact h.ns, h.ns, h.pos, h.le⟩
theorem RD.below {S : Nat → Prop} {w w' : World} {g cap : Nat} {L : List (Int × Int)} (h : RD S w g cap L) (hb : Below w.heap.size w w') : RD S w' g cap L := ⟨own_under h.own hb, h.ns, h.pos, h.le⟩
theorem RD.at {S : Nat → Prop} {w : World} {g cap : Nat} {L : List (Int × Int)} (h : RD S w g cap L) (i : Nat) (hi : i < L.length) : w.cell? ⟨g, i * 2, none⟩ = some (.int .i64 L[i].1) ∧ w.cell? ⟨g, i * 2 + 1, none⟩ = some (.int .i64 L[i].2) := h.own.cells i hi

/-- Where a handle stands first. -/
def FirstAt (L : List (Int × Int)) (x : Int) (i : Nat) : Prop := ∃ h : i < L.length, L[i].1 = x ∧ ∀ j (h : j < L.length), j < i → L[j].1 ≠ x

set_option maxHeartbeats 1000000 in
theorem rplace_yes (S : Nat → Prop) (k0 : Int) (s : TS) (g cap : Nat) (L : List (Int × Int)) (w : World) (h : RD S w g cap L) (x : Int) (i : Nat) (hi : FirstAt L x i) :
    Calls Tryd.prog 22 #[rtv k0 s g cap L.length, .int .i64 x] w fun e w' => e = .returned (.int .i64 i) ∧ Below w.heap.size w w' := by
  obtain ⟨hil, hid, hno⟩ := hi
  have HC := Lib.hid (fun j (hj : j < L.length) => (h.at j hj).1)
  have HN := Lib.hid hno
  have HI := Lib.hid hid
  have hg := h.lt
  have hle := h.le
  have hb0 : ∀ o, Below w.heap.size w (w.alloc o) := fun o => (Below.refl _ _).alloc (Nat.le_refl _) o
  clear h hno hid
  go_enter Tryd.func22, Tryd.ntmps22
  go_wp2_with fail
  go_loop [5] (fun iv => ∃ k : Nat, iv = .int .i64 k ∧ k ≤ i) (fun iv => L.length - (intOf iv).toNat)
  case atStart => exact ⟨0, rfl, Nat.zero_le _⟩
  case round =>
    obtain ⟨k, rfl, hk⟩ := hrel
    have hkl : k < L.length := by omega
    have hkl' : (k : Int) < (L.length : Int) := by omega
    have hk0 : (0 : Int) ≤ (k : Int) := by omega
    have c0 := HC.out k hkl
    by_cases e : k = i
    · subst e
      rw [HI.out] at c0
      go_wp2_with fail
      go_ret
      exact ⟨rfl, hb0 _⟩
    · have hne := HN.out k hkl (by omega)
      generalize L[k].1 = y at c0 hne
      have hz : (y == x) = false := by simpa using hne
      go_wp2_with fail
      go_round
      case rel => exact ⟨k + 1, by go_num, by omega⟩
      case measure => simp [intOf]; omega
set_option maxHeartbeats 1000000 in
theorem rplace_no (S : Nat → Prop) (k0 : Int) (s : TS) (g cap : Nat) (L : List (Int × Int)) (w : World) (h : RD S w g cap L) (x : Int) (hno : ∀ e ∈ L, e.1 ≠ x) :
    Calls Tryd.prog 22 #[rtv k0 s g cap L.length, .int .i64 x] w fun e w' => e = .returned (.int .i64 (-1)) ∧ Below w.heap.size w w' := by
  have HC := Lib.hid (fun j (hj : j < L.length) => (h.at j hj).1)
  have HN := Lib.hid hno
  have hg := h.lt
  have hle := h.le
  have hb0 : ∀ o, Below w.heap.size w (w.alloc o) := fun o => (Below.refl _ _).alloc (Nat.le_refl _) o
  clear h hno
  go_enter Tryd.func22, Tryd.ntmps22
  go_wp2_with fail
  go_loop [5] (fun iv => ∃ k : Nat, iv = .int .i64 k ∧ k ≤ L.length) (fun iv => L.length - (intOf iv).toNat)
  case atStart => exact ⟨0, rfl, Nat.zero_le _⟩
  case round =>
    obtain ⟨k, rfl, hk⟩ := hrel
    by_cases hkl : k < L.length
    · have hkl' : (k : Int) < (L.length : Int) := by omega
      have hk0 : (0 : Int) ≤ (k : Int) := by omega
      have c0 := HC.out k hkl
      have hne := HN.out _ (List.getElem_mem hkl)
      generalize L[k].1 = y at c0 hne
      have hz : (y == x) = false := by simpa using hne
      go_wp2_with fail
      go_round
      case rel => exact ⟨k + 1, by go_num, by omega⟩
      case measure => simp [intOf]; omega
    · have hge : (L.length : Int) ≤ (k : Int) := by omega
      go_wp2_with fail
      go_ret
      exact ⟨rfl, hb0 _⟩

set_option maxHeartbeats 1000000 in
theorem rend_ok (S : Nat → Prop) (k0 : Int) (s : TS) (g cap : Nat) (L : List (Int × Int)) (w : World) (h : RD S w g cap L) (a e : Nat) (ha : a < L.length) (hae : a < e) (hel : e ≤ L.length)
    (hd : ∀ m (h : m < L.length), a < m → m < e → L[a].2 < L[m].2) (hs : ∀ (h : e < L.length), L[e].2 ≤ L[a].2) :
    Calls Tryd.prog 23 #[rtv k0 s g cap L.length, .int .i64 a] w fun e' w' => e' = .returned (.int .i64 e) ∧ Below w.heap.size w w' := by
  have hca := (h.at a ha).2
  have HC := Lib.hid (fun j (hj : j < L.length) => (h.at j hj).2)
  have HD := Lib.hid hd
  have HS := Lib.hid hs
  have hg := h.lt
  have hle := h.le
  have ha0 : (0 : Int) ≤ (a : Int) := by omega
  have ha1 : (a : Int) < (L.length : Int) := by omega
  obtain ⟨y, hy⟩ : ∃ y, y = L[a].2 := ⟨_, rfl⟩
  rw [← hy] at hca
  have HY := Lib.hid hy
  clear h hd hs hy
  have hb0 : ∀ o, Below w.heap.size w (w.alloc o) := fun o => (Below.refl _ _).alloc (Nat.le_refl _) o
  go_enter Tryd.func23, Tryd.ntmps23
  go_wp2_with fail
  go_loopw [5] (fun iv wr => ∃ k : Nat, iv = .int .i64 k ∧ a < k ∧ k ≤ e ∧ wr.cell? ⟨w.heap.size, 4, none⟩ = some (.slice (some ⟨g, 0, none⟩) L.length cap) ∧ Hid (Below w.heap.size w wr)) (fun iv _ => L.length - (intOf iv).toNat)
  case atStart => exact ⟨a + 1, by go_num, by omega, by omega, by simp, Lib.hid (hb0 _)⟩
  case round =>
    obtain ⟨k, rfl, hka, hke, c4, HB⟩ := hrel
    have hk0 : (0 : Int) ≤ (k : Int) := by omega
    have hcb := (HB.out.cell (p := ⟨g, a * 2 + 1, none⟩) hg).trans hca
    by_cases e1 : k = e
    · by_cases e2 : k < L.length
      · have hkl' : (k : Int) < (L.length : Int) := by omega
        have c0 := (HB.out.cell (p := ⟨g, k * 2 + 1, none⟩) hg).trans (HC.out k e2)
        have hst : L[k].2 ≤ y := by rw [HY.out]; subst e1; exact HS.out e2
        generalize L[k].2 = z at c0 hst
        have hq : decide (y < z) = false := decide_eq_false (by omega)
        have HE := Lib.hid e1
        clear e1
        go_wp2_with fail
        go_quiet (fail)
        have HB2 := Lib.hid (show Below w.heap.size w (wr.drewN nq) from below_drewN HB.out _)
        go_wp2_with fail
        go_ret
        exact ⟨by rw [← HE.out]; rfl, HB2.out⟩
      · have hge : (L.length : Int) ≤ (k : Int) := by omega
        have HE := Lib.hid e1
        clear e1
        go_wp2_with fail
        go_quiet (fail)
        have HB2 := Lib.hid (show Below w.heap.size w (wr.drewN nq) from below_drewN HB.out _)
        go_wp2_with fail
        go_ret
        exact ⟨by rw [← HE.out]; rfl, HB2.out⟩
    · have e2 : k < L.length := by omega
      have hkl' : (k : Int) < (L.length : Int) := by omega
      have c0 := (HB.out.cell (p := ⟨g, k * 2 + 1, none⟩) hg).trans (HC.out k e2)
      have hst : y < L[k].2 := by rw [HY.out]; exact HD.out k e2 hka (by omega)
      generalize L[k].2 = z at c0 hst
      have hq : decide (y < z) = true := decide_eq_true (by omega)
      go_wp2_with fail
      go_quiet (fail)
      have HB2 := Lib.hid (show Below w.heap.size w (wr.drewN nq) from below_drewN HB.out _)
      go_wp2_with fail
      go_roundw
      case rel => exact ⟨k + 1, by go_num, by omega, by omega, c4, HB2⟩
      case measure => simp [intOf]; omega

set_option maxHeartbeats 1000000 in
theorem rup_ok (S : Nat → Prop) (k0 : Int) (s : TS) (g cap : Nat) (L : List (Int × Int)) (w : World) (h : RD S w g cap L) (a q : Nat) (ha : a < L.length) (hqa : q < a) (hq : ∀ (h : q < L.length), L[q].2 < L[a].2)
    (hd : ∀ m (h : m < L.length), q < m → m < a → L[a].2 ≤ L[m].2) :
    Calls Tryd.prog 57 #[rtv k0 s g cap L.length, .int .i64 a] w fun e' w' => e' = .returned (.int .i64 q) ∧ Below w.heap.size w w' := by
  have hca := (h.at a ha).2
  have HC := Lib.hid (fun j (hj : j < L.length) => (h.at j hj).2)
  have HD := Lib.hid hd
  have hq1 := hq (by omega)
  have hg := h.lt
  have hle := h.le
  have ha0 : (0 : Int) ≤ (a : Int) := by omega
  have ha1 : (a : Int) < (L.length : Int) := by omega
  obtain ⟨y, hy⟩ : ∃ y, y = L[a].2 := ⟨_, rfl⟩
  rw [← hy] at hca hq1
  have HY := Lib.hid hy
  have HQ := Lib.hid hq1
  clear h hd hq hy hq1
  have hb0 : ∀ o, Below w.heap.size w (w.alloc o) := fun o => (Below.refl _ _).alloc (Nat.le_refl _) o
  go_enter Tryd.func57, Tryd.ntmps57
  go_wp2_with fail
  go_loopw [5] (fun iv wr => ∃ k : Nat, iv = .int .i64 k ∧ q ≤ k ∧ k < a ∧ wr.cell? ⟨w.heap.size, 4, none⟩ = some (.slice (some ⟨g, 0, none⟩) L.length cap) ∧ Hid (Below w.heap.size w wr)) (fun iv _ => (intOf iv).toNat)
  case atStart => exact ⟨a - 1, congrArg (Value.int .i64) (by omega), by omega, by omega, by simp, Lib.hid (hb0 _)⟩
  case round =>
    obtain ⟨k, rfl, hka, hke, c4, HB⟩ := hrel
    have hk0 : (0 : Int) ≤ (k : Int) := by omega
    have hk00 : decide ((0 : Int) ≤ (k : Int)) = true := decide_eq_true hk0
    have hcb := (HB.out.cell (p := ⟨g, a * 2 + 1, none⟩) hg).trans hca
    have e2 : k < L.length := by omega
    have hkl' : (k : Int) < (L.length : Int) := by omega
    have c0 := (HB.out.cell (p := ⟨g, k * 2 + 1, none⟩) hg).trans (HC.out k e2)
    by_cases e1 : k = q
    · have hst : L[k].2 < y := by subst e1; exact HQ.out
      generalize L[k].2 = z at c0 hst
      have hq : decide (y ≤ z) = false := decide_eq_false (by omega)
      have HE := Lib.hid e1
      clear e2 e1
      go_wp2_with fail
      go_quiet (fail)
      have HB2 := Lib.hid (show Below w.heap.size w (wr.drewN nq) from below_drewN HB.out _)
      go_wp2_with fail
      go_ret
      exact ⟨by rw [← HE.out]; rfl, HB2.out⟩
    · have hst : y ≤ L[k].2 := by rw [HY.out]; exact HD.out k e2 (by omega) hke
      generalize L[k].2 = z at c0 hst
      have hq : decide (y ≤ z) = true := decide_eq_true (by omega)
      have hk1 : 1 ≤ k := by omega
      clear e2
      go_wp2_with fail
      go_quiet (fail)
      have HB2 := Lib.hid (show Below w.heap.size w (wr.drewN nq) from below_drewN HB.out _)
      go_wp2_with fail
      go_roundw
      case rel => exact ⟨k - 1, congrArg (Value.int .i64) (by omega), by omega, by omega, c4, HB2⟩
      case measure => simp [intOf]; omega
set_option maxHeartbeats 1000000 in
theorem rup_0 (S : Nat → Prop) (k0 : Int) (s : TS) (g cap : Nat) (L : List (Int × Int)) (w : World) (h : RD S w g cap L) :
    Calls Tryd.prog 57 #[rtv k0 s g cap L.length, .int .i64 0] w fun e' w' => e' = .returned (.int .i64 (-1)) ∧ Below w.heap.size w w' := by
  have hg := h.lt
  have hb0 : ∀ o, Below w.heap.size w (w.alloc o) := fun o => (Below.refl _ _).alloc (Nat.le_refl _) o
  clear h
  go_enter Tryd.func57, Tryd.ntmps57
  go_wp2_with fail
  go_loopw [5] (fun iv wr => iv = .int .i64 (-1) ∧ Hid (Below w.heap.size w wr)) (fun iv _ => (intOf iv).toNat)
  case atStart => exact ⟨rfl, Lib.hid (hb0 _)⟩
  case round =>
    obtain ⟨rfl, HB⟩ := hrel
    go_wp2_with fail
    go_quiet (fail)
    have HB2 := Lib.hid (show Below w.heap.size w (wr.drewN nq) from below_drewN HB.out _)
    go_wp2_with fail
    go_ret
    exact ⟨rfl, HB2.out⟩
theorem rslot_any (x : Int) (w : World) : Calls Tryd.prog 24 #[.int .i64 x] w fun e w' => e = .returned (.int .i64 (sOf x)) ∧ w = w' := by
  go_enter Tryd.func24, Tryd.ntmps24
  go_wp2_with fail
  go_ret
  exact ⟨ret_int (i64_mask _), rfl⟩
end Go.Proofs.YtlcdbblbepndoaaDoor
