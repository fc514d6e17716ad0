/- The document's own ahead and Pick; no condition but those that each row names. -/
import Derived.Test.YtfahpjilgdlhiaaWPick
import Derived.Deep.CutBlock
import Derived.Deep.CutRange
namespace Go.Proofs.Ytfahpjilgdlhiaa
open Go.RowKit Edf

def BoolPost (w : World) (x : Bool) (e : Ending) (w' : World) : Prop := e = .returned (.bool x) ∧ Below w.heap.size w w'
set_option maxHeartbeats 4000000 in
set_option maxRecDepth 100000 in
theorem rahead_any (w : World) (v : Value) (n : Nat) (c : Nat → Tri) (h : Tris w v n c) (a b : Nat) (ha : a < n) (hb : b < n) : Calls Try.prog 34 #[v, .int .i64 (a : Nat), .int .i64 (b : Nat)] w (BoolPost w (decide (Ahead c a b))) := by
  obtain ⟨p, cap, rfl, hm, hcs⟩ := h
  obtain ⟨b1, o1, rfl, c0, c1, c2⟩ := hcs a ha
  obtain ⟨b2, o2, e2, d0, d1, d2⟩ := hcs b hb
  cases e2
  clear hcs
  have hl1 := cell_lt c0
  simp only at hl1
  have a0 : (0 : Int) ≤ (a : Int) := by omega
  have a1 : (a : Int) < (n : Int) := by omega
  have b0 : (0 : Int) ≤ (b : Int) := by omega
  have b1' : (b : Int) < (n : Int) := by omega
  have HA := Lib.hid (show decide (Ahead c a b) = decide ((c a).c < (c b).c ∨ (c a).c = (c b).c ∧ ((c a).a < (c b).a ∨ (c a).a = (c b).a ∧ a < b)) from rfl)
  generalize decide (Ahead c a b) = R at *
  generalize (c a).a = xa at *
  generalize (c a).b = xb at *
  generalize (c a).c = xc at *
  generalize (c b).a = ya at *
  generalize (c b).b = yb at *
  generalize (c b).c = yc at *
  go_enter Try.func34, Try.ntmps34
  go_upto_region 1 with fail
  go_cut [7, 8] (fun s7 s8 wx => ∃ X Y, s7 = .pointer (some ⟨X, 0, none⟩) ∧ s8 = .pointer (some ⟨Y, 0, none⟩) ∧ wx.cell? ⟨X, 0, none⟩ = some (.int .i64 xa) ∧ wx.cell? ⟨X, 2, none⟩ = some (.int .i64 xc) ∧ wx.cell? ⟨Y, 0, none⟩ = some (.int .i64 ya) ∧ wx.cell? ⟨Y, 2, none⟩ = some (.int .i64 yc) ∧ Hid (Below w.heap.size w wx))
  case first =>
    go_region
    all_goals
      go_wp2_with fail
      go_meet
      first
        | exact ⟨_, _, rfl, rfl, has_cell (has_old (has_new w (.cells #[.int .i64 xa, .int .i64 xb, .int .i64 xc] 26) _ rfl) _) 0, has_cell (has_old (has_new w (.cells #[.int .i64 xa, .int .i64 xb, .int .i64 xc] 26) _ rfl) _) 2, has_cell (has_new (w.alloc (.cells #[.int .i64 xa, .int .i64 xb, .int .i64 xc] 26)) (.cells #[.int .i64 ya, .int .i64 yb, .int .i64 yc] 26) (w.heap.size + 1) (by simp)) 0, has_cell (has_new (w.alloc (.cells #[.int .i64 xa, .int .i64 xb, .int .i64 xc] 26)) (.cells #[.int .i64 ya, .int .i64 yb, .int .i64 yc] 26) (w.heap.size + 1) (by simp)) 2, Lib.hid (by repeat (first | exact Below.refl _ _ | (with_reducible assumption) | refine Below.drew ?_ | (refine Below.alloc ?_ (by first | exact Nat.le_refl _ | omega | (simp; done) | (simp; omega)) _) | (refine Below.setCell ?_ (by first | omega | (simp; done) | (simp; omega)) _)))⟩
        | exact ⟨_, _, rfl, rfl, has_cell (has_new (w.alloc (.cells #[.int .i64 ya, .int .i64 yb, .int .i64 yc] 26)) (.cells #[.int .i64 xa, .int .i64 xb, .int .i64 xc] 26) (w.heap.size + 1) (by simp)) 0, has_cell (has_new (w.alloc (.cells #[.int .i64 ya, .int .i64 yb, .int .i64 yc] 26)) (.cells #[.int .i64 xa, .int .i64 xb, .int .i64 xc] 26) (w.heap.size + 1) (by simp)) 2, has_cell (has_old (has_new w (.cells #[.int .i64 ya, .int .i64 yb, .int .i64 yc] 26) _ rfl) _) 0, has_cell (has_old (has_new w (.cells #[.int .i64 ya, .int .i64 yb, .int .i64 yc] 26) _ rfl) _) 2, Lib.hid (by repeat (first | exact Below.refl _ _ | (with_reducible assumption) | refine Below.drew ?_ | (refine Below.alloc ?_ (by first | exact Nat.le_refl _ | omega | (simp; done) | (simp; omega)) _) | (refine Below.setCell ?_ (by first | omega | (simp; done) | (simp; omega)) _)))⟩
  case rest =>
    obtain ⟨X, Y, rfl, rfl, x0, x2, y0, y2, HB⟩ := hcut
    clear c0 c1 c2 d0 d1 d2
    by_cases hc : xc = yc
    · subst hc
      by_cases hs : xa = ya
      · subst hs
        go_wp2_with fail
        go_ret
        exact ⟨ret_bool (by rw [HA.out]; simp), HB.out⟩
      · have hs1 : (xa == ya) = false := by rw [beq_eq_false_iff_ne]; exact hs
        have hs2 : (xa != ya) = true := by rw [bne_iff_ne]; exact hs
        have HS := Lib.hid hs
        clear hs
        go_wp2_with fail
        go_ret
        exact ⟨ret_bool (by rw [HA.out]; simp [HS.out]), HB.out⟩
    · have hs1 : (xc == yc) = false := by rw [beq_eq_false_iff_ne]; exact hc
      have hs2 : (xc != yc) = true := by rw [bne_iff_ne]; exact hc
      have HS := Lib.hid hc
      clear hc
      go_wp2_with fail
      go_ret
      exact ⟨ret_bool (by rw [HA.out]; simp [HS.out]), HB.out⟩

set_option maxHeartbeats 2000000 in
set_option maxRecDepth 100000 in
theorem rpick_any (w : World) (v : Value) (n : Nat) (c : Nat → Tri) (h : Tris w v n c) : Calls Try.prog 13 #[v] w (IntPost w (placeZ (pick c n))) := by
  have HV := Lib.hid (fun W (hb : Below w.heap.size w W) => h.below hb)
  have HAH := Lib.hid (fun W (hb : Below w.heap.size w W) a b ha hb2 => rahead_any W v n c (h.below hb) a b ha hb2)
  obtain ⟨p, cap, rfl, hm, hdrop⟩ := h
  clear hdrop
  go_enter Try.func13, Try.ntmps13
  go_wp2_with fail
  go_loopw [3, 4] (fun fv iv wr => ∃ (k : Nat), k ≤ n ∧ iv = .int .i64 k ∧ fv = .int .i64 (placeZ (pick c k)) ∧ Hid (Below w.heap.size w wr)) (fun _ iv _ => n - (intOf iv).toNat)
  case atStart => exact ⟨0, Nat.zero_le _, rfl, rfl, Lib.hid (Below.refl _ _)⟩
  case round =>
    obtain ⟨k, hk, rfl, rfl, HB⟩ := hrel
    by_cases hlt : k < n
    · have hlt' : (k : Int) < (n : Int) := by omega
      have k0 : (0 : Int) ≤ (k : Int) := by omega
      obtain ⟨_, _, hsl, _, hcs⟩ := HV.out wr HB.out
      injection hsl with hs1 hs2 hs3
      subst hs1 hs3
      obtain ⟨b1, off, rfl, c0, c1, c2⟩ := hcs k hlt
      clear hcs hs2 c0 c2
      by_cases hl : 0 < (c k).b
      · cases hp : pick c k with
        | none =>
          have HN := Lib.hid (show placeZ (pick c (k + 1)) = (k : Int) by rw [pick_first hl hp]; rfl)
          generalize (c k).b = xb at *
          rw [show placeZ none = (-1 : Int) from rfl]
          clear hp
          go_wp2_with fail
          go_roundw
          case rel => exact ⟨k + 1, by omega, by go_num, by rw [HN.out], HB⟩
          case measure => simp [intOf]; omega
        | some b =>
          have hbk := pick_lt hp
          have HCL := Lib.hid (HAH.out wr HB.out k b hlt (by omega))
          have hb0 : ¬ (b : Int) < 0 := by omega
          by_cases ha : Ahead c k b
          · have HN := Lib.hid (show placeZ (pick c (k + 1)) = (k : Int) by rw [pick_yes hl hp ha]; rfl)
            rw [decide_eq_true ha] at HCL
            generalize (c k).b = xb at *
            rw [show placeZ (some b) = (b : Int) from rfl]
            clear ha hp
            go_wp2_with fail
            refine HCL.out.mono ?_
            rintro e w2 ⟨rfl, hb2⟩
            have HB2 := Lib.hid (bnext HB.out hb2)
            clear hb2
            go_wp2_with fail
            go_roundw
            case rel => exact ⟨k + 1, by omega, by go_num, by rw [HN.out], HB2⟩
            case measure => simp [intOf]; omega
          · have HN := Lib.hid (show placeZ (pick c (k + 1)) = (b : Int) by rw [pick_behind hp ha]; rfl)
            rw [decide_eq_false ha] at HCL
            generalize (c k).b = xb at *
            rw [show placeZ (some b) = (b : Int) from rfl]
            clear ha hp
            go_wp2_with fail
            refine HCL.out.mono ?_
            rintro e w2 ⟨rfl, hb2⟩
            have HB2 := Lib.hid (bnext HB.out hb2)
            clear hb2
            go_wp2_with fail
            go_roundw
            case rel => exact ⟨k + 1, by omega, by go_num, by rw [HN.out], HB2⟩
            case measure => simp [intOf]; omega
      · have HN := Lib.hid (show placeZ (pick c (k + 1)) = placeZ (pick c k) by rw [pick_no hl])
        have hl' : (c k).b ≤ 0 := by omega
        generalize (c k).b = xb at *
        generalize placeZ (pick c k) = z at *
        clear hl
        go_wp2_with fail
        go_roundw
        case rel => exact ⟨k + 1, by omega, by go_num, by rw [HN.out], HB⟩
        case measure => simp [intOf]; omega
    · have hge : decide (k < n) = false := decide_eq_false hlt
      obtain rfl : k = n := by omega
      clear hlt
      go_wp2_with fail
      go_ret
      exact ⟨rfl, HB.out⟩
end Go.Proofs.Ytfahpjilgdlhiaa
