/- The walk of AdmitRuns: whatever the row of acts and the period, it answers true; no condition. -/
import Derived.Test.YtilbohjkkdkdiaaGAlike
namespace Go.Proofs.Ytilbohjkkdkdiaa
open Go.RowKit

/-- What the loop carries: the program's book beside the document's list. -/
def RuI (b : Nat) (w : World) (v : Value) (wr : World) (f : Nat → Cl) : Prop := BK BT wr b f ∧ Good f ∧ Below w.heap.size w wr ∧ Rc wr v (lst f 0 64)
theorem ru_turn {b : Nat} {w wr w2 : World} {v v2 : Value} {f f2 : Nat → Cl} (h : RuI b w v wr f) (hw : w.heap.size ≤ b) (hb2 : BK BT w2 b f2) (hg2 : Good f2) (hv2 : Rc w2 v2 (lst f2 0 64)) (hk2 : Keeps (fun x => x = b) wr w2) : RuI b w v2 w2 f2 :=
  ⟨hb2, hg2, turn_below h.2.2.1 hw h.2.2.1.size hk2, hv2⟩
theorem ru_below {b : Nat} {w wr w2 : World} {v : Value} {f : Nat → Cl} (h : RuI b w v wr f) (hb : Below wr.heap.size wr w2) : RuI b w v w2 f :=
  ⟨h.1.below hb, h.2.1, bnext h.2.2.1 hb, h.2.2.2.below hb⟩
theorem ru_new (w : World) : RuI w.heap.size w (.slice none 0 0) (w.alloc (.cells (arr (fun _ => zc)) BT)) (fun _ => zc) :=
  ⟨BK.new BT w (fun _ => zc), good_none, (Below.refl w.heap.size w).alloc (Nat.le_refl _) (.cells (arr (fun _ => zc)) BT), by rw [lst_new]; exact Rc.nil _⟩
/-- The act that a round does. -/
theorem act_at {w : World} {p : Option Addr} {cap : Nat} {l : List (Int × Int × Int)} (h : ActsAt w (.slice p l.length cap) l) {k : Nat} (hk : k < l.length) : ∃ b off x0 x1 x2, p = some ⟨b, off, none⟩ ∧ b < w.heap.size ∧ w.cell? ⟨b, off + k * 3, none⟩ = some (.int .i64 x0) ∧ w.cell? ⟨b, off + k * 3 + 1, none⟩ = some (.int .i64 x1) ∧ w.cell? ⟨b, off + k * 3 + 2, none⟩ = some (.int .i64 x2) := by
  have hget : l[k]? = some l[k] := List.getElem?_eq_getElem hk
  rcases hx : l[k] with ⟨x0, x1, x2⟩
  rw [hx] at hget
  obtain ⟨p', cap', e, _, hc⟩ := h
  cases e
  obtain ⟨b, off, rfl, q0, q1, q2⟩ := hc k x0 x1 x2 hget
  exact ⟨b, off, x0, x1, x2, rfl, cell_lt q0, q0, q1, q2⟩

set_option maxHeartbeats 4000000 in
set_option maxRecDepth 100000 in
theorem runs_any (v : Value) (l : List (Int × Int × Int)) (p0 : Int) (w : World) (h : ActsAt w v l) : Calls Try.prog 3 #[v, .int .i64 p0] w fun e w' => e = .returned (.bool true) ∧ Below w.heap.size w w' := by
  have HN := Lib.hid fun w => new_any w
  have HA := Lib.hid h
  have H1 := Lib.hid (ru_new w)
  obtain ⟨p, cap, rfl, hl, hc⟩ := h
  clear hc
  go_enter Try.func3, Try.ntmps3
  go_wp2_with fail
  refine (HN.out _).mono ?_
  rintro e w1 ⟨rfl, hw1⟩
  rw [← hw1] at H1
  clear hw1 HN
  go_wp2_with fail
  go_loopw [6, 7] (fun u i wr => ∃ (k : Nat) (f : Nat → Cl), k ≤ l.length ∧ i = .int .i64 k ∧ Hid (RuI w.heap.size w u wr f)) (fun _ i _ => l.length - (intOf i).toNat)
  case atStart => exact ⟨0, _, by omega, rfl, H1⟩
  case round =>
    obtain ⟨k, f, hk, rfl, HE⟩ := hrel
    clear H1
    by_cases hlt : k < l.length
    · have hlt' : (k : Int) < (l.length : Int) := by omega
      have hk0 : (0 : Int) ≤ (k : Int) := by omega
      obtain ⟨b', off, x0, x1, x2, rfl, hlb, q0, q1, q2⟩ := act_at HA.out hlt
      have r0 := (HE.out.2.2.1.cell (p := ⟨b', _, none⟩) hlb).trans q0
      have r1 := (HE.out.2.2.1.cell (p := ⟨b', _, none⟩) hlb).trans q1
      have r2 := (HE.out.2.2.1.cell (p := ⟨b', _, none⟩) hlb).trans q2
      have HQ := Lib.hid q1
      clear q0 q1 q2
      go_wp2_with fail
      refine (do_any _ _ f _ _ _ _ HE.out.1 HE.out.2.1 HE.out.2.2.2).mono ?_
      rintro e w2 ⟨v2, f2, rfl, hb2, hg2, hv2, hk2⟩
      have HE2 := Lib.hid (ru_turn HE.out (Nat.le_refl _) hb2 hg2 hv2 hk2)
      have s1 := (HE2.out.2.2.1.cell (p := ⟨b', _, none⟩) hlb).trans HQ.out
      clear hb2 hg2 hv2 hk2 r0 r1 r2
      go_wp2_with fail
      refine (alike_any _ _ f2 _ _ _ HE2.out.1 HE2.out.2.1 HE2.out.2.2.2).mono ?_
      rintro e w3 ⟨rfl, hb3⟩
      have HE3 := Lib.hid (ru_below HE2.out hb3)
      clear hb3 s1
      go_wp2_with fail
      go_roundw
      case rel => exact ⟨k + 1, f2, by omega, by go_num, HE3⟩
      case measure => simp [intOf]; omega
    · have hg3 : decide (k < l.length) = false := decide_eq_false hlt
      have HWE := Lib.hid HE.out.2.2.1
      clear hlt HE
      go_wp2_with fail
      refine (works_any _).mono ?_
      rintro e w9 ⟨rfl, hb9⟩
      have HB9 := Lib.hid (bnext HWE.out hb9)
      clear hb9
      go_wp2_with fail
      go_ret
      exact ⟨rfl, HB9.out⟩
end Go.Proofs.Ytilbohjkkdkdiaa
