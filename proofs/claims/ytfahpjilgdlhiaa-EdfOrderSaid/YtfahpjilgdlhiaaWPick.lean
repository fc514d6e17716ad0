/- Pick: the program's and the document's; no condition but those that each row names. -/
import Derived.Test.YtfahpjilgdlhiaaWCmp
import Derived.Test.YtfahpjilgdlhiaaWVal
namespace Go.Proofs.Ytfahpjilgdlhiaa
open Go.RowKit Edf

abbrev cmpF (bx : Nat) : Value := .func (.func 46) #[] #[.pointer (some ⟨bx, 0, none⟩)]
theorem comparing_any (w : World) (v : Value) (h : ∃ p n cap, v = .slice p n cap) : Calls Try.prog 33 #[v] w fun e w' => e = .returned (cmpF w.heap.size) ∧ w' = w.alloc (.cells #[v] 23) := by
  obtain ⟨p, n, cap, rfl⟩ := h
  go_enter Try.func33, Try.ntmps33
  go_wp2
  go_ret
  exact ⟨rfl, rfl⟩
theorem pick_lt {c : Nat → Tri} {n k : Nat} (h : pick c n = some k) : k < n := (pick_some h).1
theorem pick_no {c : Nat → Tri} {n : Nat} (h : ¬ 0 < (c n).b) : pick c (n + 1) = pick c n := by simp only [pick]; rw [if_neg fun k => h k.1]
theorem pick_first {c : Nat → Tri} {n : Nat} (h : 0 < (c n).b) (h2 : pick c n = none) : pick c (n + 1) = some n := by simp only [pick]; rw [h2, if_pos ⟨h, trivial⟩]
theorem pick_yes {c : Nat → Tri} {n b : Nat} (h : 0 < (c n).b) (h2 : pick c n = some b) (h3 : Ahead c n b) : pick c (n + 1) = some n := by simp only [pick]; rw [h2, if_pos ⟨h, h3⟩]
theorem pick_behind {c : Nat → Tri} {n b : Nat} (h2 : pick c n = some b) (h3 : ¬ Ahead c n b) : pick c (n + 1) = some b := by simp only [pick]; rw [h2, if_neg fun k => h3 k.2]

set_option maxHeartbeats 2000000 in
set_option maxRecDepth 100000 in
theorem pick_any (w : World) (v : Value) (n : Nat) (c : Nat → Tri) (h : Tris w v n c) : Calls Try.prog 12 #[v] w (IntPost w (placeZ (pick c n))) := by
  have HV := Lib.hid (fun W (hb : Below w.heap.size w W) => h.below hb)
  obtain ⟨p, cap, rfl, hm, hdrop⟩ := h
  clear hdrop
  have HC := Lib.hid (fun w => comparing_any w (.slice p n cap) ⟨_, _, _, rfl⟩)
  go_enter Try.func12, Try.ntmps12
  go_wp2_with fail
  refine (HC.out _).mono ?_
  rintro e w1 ⟨rfl, hw1⟩
  have HB0 := Lib.hid (show Below w.heap.size w w1 by rw [hw1]; exact (Below.refl _ _).alloc (Nat.le_refl _) _)
  have hbx : Boxed w1 w.heap.size (.slice p n cap) := by
    rw [hw1]; exact has_cell (has_new w (.cells #[.slice p n cap] 23) _ rfl) 0
  have hbl : w.heap.size < w1.heap.size := by rw [hw1]; simp
  have HBX := Lib.hid (show ∀ W, Below w1.heap.size w1 W → Boxed W w.heap.size (.slice p n cap) from fun W hb => (hb.cell (p := ⟨w.heap.size, 0, none⟩) hbl).trans hbx)
  clear hw1 hbx hbl
  go_wp2_with fail
  go_loopw [4, 11] (fun fv iv wr => ∃ (k : Nat), k ≤ n ∧ iv = .int .i64 k ∧ fv = .int .i64 (placeZ (pick c k)) ∧ Hid (Below w1.heap.size w1 wr)) (fun _ iv _ => n - (intOf iv).toNat)
  case atStart => exact ⟨0, Nat.zero_le _, rfl, rfl, Lib.hid (Below.refl _ _)⟩
  case round =>
    obtain ⟨k, hk, rfl, rfl, HB⟩ := hrel
    by_cases hlt : k < n
    · have hlt' : (k : Int) < (n : Int) := by omega
      have k0 : (0 : Int) ≤ (k : Int) := by omega
      obtain ⟨_, _, hsl, _, hcs⟩ := HV.out wr (bnext HB0.out HB.out)
      injection hsl with hs1 hs2 hs3
      subst hs1 hs3
      obtain ⟨b1, off, rfl, c0, c1, c2⟩ := hcs k hlt
      clear hcs hs2
      by_cases hl : 0 < (c k).b
      · cases hp : pick c k with
        | none =>
          have HN := Lib.hid (show placeZ (pick c (k + 1)) = (k : Int) by rw [pick_first hl hp]; rfl)
          have HBB := Lib.hid (below_alloc HB.out (.cells #[.int .i64 (c k).a, .int .i64 (c k).b, .int .i64 (c k).c] 25))
          generalize (c k).a = xa at *
          generalize (c k).b = xb at *
          generalize (c k).c = xc at *
          rw [show placeZ none = (-1 : Int) from rfl]
          go_wp2_with fail
          go_roundw
          case rel => exact ⟨k + 1, by omega, by go_num, by rw [HN.out], HBB⟩
          case measure => simp [intOf]; omega
        | some b =>
          have hbk := pick_lt hp
          have HCL := Lib.hid (fun W (hb : Below w1.heap.size w1 W) => closure_any W w.heap.size _ n c (HBX.out W hb) (HV.out W (bnext HB0.out hb)) k b hlt (by omega))
          have HBB := Lib.hid (below_alloc HB.out (.cells #[.int .i64 (c k).a, .int .i64 (c k).b, .int .i64 (c k).c] 25))
          have hb0 : ((b : Int) == -1) = false := by rw [beq_eq_false_iff_ne]; omega
          by_cases ha : Ahead c k b
          · have HN := Lib.hid (show placeZ (pick c (k + 1)) = (k : Int) by rw [pick_yes hl hp ha]; rfl)
            have hneg : cmpT c k b < 0 := cmpT_neg.2 ha
            generalize (c k).a = xa at *
            generalize (c k).b = xb at *
            generalize (c k).c = xc at *
            generalize cmpT c k b = z at *
            rw [show placeZ (some b) = (b : Int) from rfl]
            clear ha hp
            go_wp2_with fail
            refine (HCL.out _ HBB.out).mono ?_
            rintro e w2 ⟨rfl, o, rfl⟩
            have HB2 := Lib.hid (below_alloc (below_drew HBB.out) o)
            go_wp2_with fail
            go_roundw
            case rel => exact ⟨k + 1, by omega, by go_num, by rw [HN.out], HB2⟩
            case measure => simp [intOf]; omega
          · have HN := Lib.hid (show placeZ (pick c (k + 1)) = (b : Int) by rw [pick_behind hp ha]; rfl)
            have hneg : ¬ cmpT c k b < 0 := fun h => ha (cmpT_neg.1 h)
            have hneg2 : 0 ≤ cmpT c k b := by omega
            generalize (c k).a = xa at *
            generalize (c k).b = xb at *
            generalize (c k).c = xc at *
            generalize cmpT c k b = z at *
            rw [show placeZ (some b) = (b : Int) from rfl]
            clear ha hp hneg
            go_wp2_with fail
            refine (HCL.out _ HBB.out).mono ?_
            rintro e w2 ⟨rfl, o, rfl⟩
            have HB2 := Lib.hid (below_alloc (below_drew HBB.out) o)
            go_wp2_with fail
            go_roundw
            case rel => exact ⟨k + 1, by omega, by go_num, by rw [HN.out], HB2⟩
            case measure => simp [intOf]; omega
      · have HN := Lib.hid (show placeZ (pick c (k + 1)) = placeZ (pick c k) by rw [pick_no hl])
        have hl' : (c k).b ≤ 0 := by omega
        have HBB := Lib.hid (below_alloc HB.out (.cells #[.int .i64 (c k).a, .int .i64 (c k).b, .int .i64 (c k).c] 25))
        generalize (c k).a = xa at *
        generalize (c k).b = xb at *
        generalize (c k).c = xc at *
        generalize placeZ (pick c k) = z at *
        clear hl
        go_wp2_with fail
        go_roundw
        case rel => exact ⟨k + 1, by omega, by go_num, by rw [HN.out], HBB⟩
        case measure => simp [intOf]; omega
    · have hge : decide (k < n) = false := decide_eq_false hlt
      obtain rfl : k = n := by omega
      clear hlt
      go_wp2_with fail
      go_ret
      exact ⟨rfl, bnext HB0.out HB.out⟩
end Go.Proofs.Ytfahpjilgdlhiaa
