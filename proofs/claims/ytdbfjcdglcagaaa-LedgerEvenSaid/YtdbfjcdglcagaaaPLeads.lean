/- The program's book: does a path lead from the root down? No condition but those that each row names. -/
import Derived.Test.YtdbfjcdglcagaaaPClose
import Derived.Test.YtdbfjcdglcagaaaNIts
namespace Go.Proofs.Ytdbfjcdglcagaaa
open Go.RowKit Go.Maps Bk

def prev (f : Nat → Int) (j : Nat) : Int := if j = 0 then 0 else f (j - 1)
open Classical in
noncomputable def okPB (L : List Ln) (n : Nat) (f : Nat → Int) : Bool := decide (okP L n f)
open Classical in
theorem okPB_true {L : List Ln} {n : Nat} {f : Nat → Int} (h : okP L n f) : okPB L n f = true := decide_eq_true h
open Classical in
theorem okPB_false {L : List Ln} {n : Nat} {f : Nat → Int} (h : ¬ okP L n f) : okPB L n f = false := decide_eq_false h
set_option maxHeartbeats 2000000 in
set_option maxRecDepth 100000 in
theorem pleads (w : World) (b mb : Nat) (L : List Ln) (h : PBk w b mb L) (hnz : ∀ x ∈ L, x.h ≠ 0) (v : Value) (n : Nat) (f : Nat → Int) (hv : Nums w v n f) (hf : ∀ j, j < n → I64 (f j)) :
    Calls Try.prog 13 #[.pointer (some ⟨b, 0, none⟩), v] w fun e w' => e = .returned (.bool (okPB L n f)) ∧ Below w.heap.size w w' := by
  have HS := Lib.hid (fun (W : World) (hb : Below w.heap.size w W) (j : Nat) (hj : j < n) (x : Ln) (hx : getB L (f j) = some x) => pfind_some W b mb L (h.below hb) (f j) (hf j hj) x hx)
  have HN := Lib.hid (fun (W : World) (hb : Below w.heap.size w W) (j : Nat) (hj : j < n) (hx : getB L (f j) = none) => pfind_none W b mb L (h.below hb) (f j) (hf j hj) hx)
  obtain ⟨p, cap, rfl, hm, hc⟩ := hv
  have HC := Lib.hid (show ∀ W, Below w.heap.size w W → ∀ j, j < n → ∃ g off, p = some ⟨g, off, none⟩ ∧ W.cell? ⟨g, off + j, none⟩ = some (.int .i64 (f j)) from fun W hb j hj => by
    obtain ⟨g, off, e, c⟩ := hc j hj
    exact ⟨g, off, e, (hb.cell (p := ⟨g, off + j, none⟩) (cell_lt c)).trans c⟩)
  have HZ := Lib.hid hnz
  clear h hf hc hnz
  go_enter Try.func13, Try.ntmps13
  go_wp2_with fail
  go_loopw [5, 12] (fun av iv wr => ∃ j : Nat, iv = .int .i64 j ∧ j ≤ n ∧ av = .int .i64 (prev f j) ∧ Hid (∀ i, i < j → stepP L f i) ∧ Hid (Below w.heap.size w wr)) (fun _ iv _ => n - (intOf iv).toNat)
  case atStart => exact ⟨0, rfl, Nat.zero_le _, rfl, Lib.hid (fun i h => absurd h (Nat.not_lt_zero _)), Lib.hid (Below.refl _ _)⟩
  case round =>
    obtain ⟨j, rfl, hj, rfl, HK, HB⟩ := hrel
    by_cases hjn : j < n
    · have hjn' : (j : Int) < (n : Int) := by omega
      obtain ⟨g, off, rfl, c0⟩ := HC.out wr HB.out j hjn
      have HP := Lib.hid (show stepP L f j → ∀ i, i < j + 1 → stepP L f i from fun hs i hi => by
        by_cases e : i = j
        · subst e; exact hs
        · exact HK.out i (by omega))
      have HE := Lib.hid (show (∃ x, getB L (f j) = some x ∧ x.p = prev f j) ↔ stepP L f j from Iff.rfl)
      have HQ := Lib.hid (show prev f (j + 1) = f j from by unfold prev; rw [if_neg (by omega)]; rfl)
      have HF := Lib.hid (show ¬ stepP L f j → okPB L n f = false from fun hs => okPB_false fun hh => hs (hh.2 j hjn))
      cases hx : getB L (f j) with
      | none =>
        have HR := Lib.hid (HF.out fun ⟨x, hh, _⟩ => by rw [hx] at hh; cases hh)
        have HNN := Lib.hid (HN.out wr HB.out j hjn hx)
        generalize f j = fj at c0 HNN HQ
        generalize prev f j = pj
        clear hx HE HP HF HK HS HN
        go_wp2_with fail
        refine HNN.out.mono ?_
        rintro e w1 ⟨rfl, hb1⟩
        have HB1 := Lib.hid (bnext HB.out hb1)
        clear hb1
        rw [errV_ne (by decide)]
        go_wp2_with fail
        go_ret
        exact ⟨ret_bool HR.out.symm, below_alloc HB1.out _⟩
      | some x =>
        have HSS := Lib.hid (HS.out wr HB.out j hjn x hx)
        by_cases hp : x.p = prev f j
        · have z : (x.p == prev f j) = true := by simpa using hp
          have HR := Lib.hid (HP.out (HE.out.1 ⟨x, hx, hp⟩))
          clear HE HP HF HK HS HN hp hx
          generalize f j = fj at c0 HSS HQ
          generalize prev f j = pj at z
          go_wp2_with fail
          refine HSS.out.mono ?_
          rintro e w1 ⟨rfl, hb1⟩
          have HB1 := Lib.hid (bnext HB.out hb1)
          clear hb1
          go_wp2_with fail
          go_roundw
          case rel => exact ⟨j + 1, by go_num, by omega, by rw [HQ.out], HR, Lib.hid (below_alloc HB1.out _)⟩
          case measure => simp [intOf]; omega
        · have z : (x.p == prev f j) = false := by simpa using hp
          have HR := Lib.hid (HF.out fun hh => by
            obtain ⟨x', h1, h2⟩ := HE.out.2 hh
            rw [hx] at h1; cases h1; exact hp h2)
          clear HE HP HF HK HS HN hp hx
          generalize f j = fj at c0 HSS HQ
          generalize prev f j = pj at z
          go_wp2_with fail
          refine HSS.out.mono ?_
          rintro e w1 ⟨rfl, hb1⟩
          have HB1 := Lib.hid (bnext HB.out hb1)
          clear hb1
          go_wp2_with fail
          go_ret
          exact ⟨ret_bool HR.out.symm, below_alloc HB1.out _⟩
    · have hd : decide (j < n) = false := decide_eq_false hjn
      have HR := Lib.hid (show okPB L n f = !(prev f j == 0) from by
        have e : j = n := by omega
        subst e
        by_cases h0 : j = 0
        · subst h0
          have : okPB L 0 f = false := okPB_false fun hh => absurd hh.1 (Nat.lt_irrefl _)
          rw [this]; rfl
        · have hok : okPB L j f = true := okPB_true ⟨by omega, HK.out⟩
          obtain ⟨x, hx, _⟩ := HK.out (j - 1) (by omega)
          obtain ⟨h1, h2⟩ := get_some hx
          have : prev f j ≠ 0 := by unfold prev; rw [if_neg h0, ← h1]; exact HZ.out x h2
          rw [hok]
          simp [this])
      clear HK HS HN
      generalize prev f j = pj at HR
      go_wp2_with fail
      go_ret
      exact ⟨ret_bool HR.out.symm, HB.out⟩
end Go.Proofs.Ytdbfjcdglcagaaa
