/- handle.appendNumber: six bytes of a number behind a slice of the call's own; no condition but those that each row names. -/
import Derived.Test.YtokplbfjpabolaaDoorHBytes
import Derived.Laws.IdiomStrings
namespace Go.Proofs.YtokplbfjpabolaaDoor
open Go.RowKit

theorem bcells_byte (l : List UInt8) (n : Int) (b : UInt8) (h : (b.toNat : Int) = n) : bcells l ++ [.int .u8 n] = bcells (l ++ [b]) := by
  unfold bcells
  rw [List.map_append, ← h]
  rfl
theorem ownB_byte {E base : Nat} {w : World} {v : Value} {xs : List UInt8} (n : Int) (b : UInt8) (hn : (b.toNat : Int) = n)
    (h : w.ownsRow base E 1 v (xs.length + 1) (bcells xs ++ [.int .u8 n])) : OwnB E base w v (xs ++ [b]) := by
  unfold OwnB
  rw [← bcells_byte xs n b hn, List.length_append]
  exact h
theorem ownB_shape0 {E base : Nat} {w : World} {v : Value} {xs : List UInt8} (h : OwnB E base w v xs) : ∃ p cap, v = .slice p xs.length cap := by
  obtain ⟨h1, h2⟩ := h
  rcases h2 with ⟨rfl, h2⟩ | ⟨g, cap, cur, hv, _⟩
  · have : xs = [] := by simpa [bcells] using h2
    subst this
    exact ⟨_, _, rfl⟩
  · exact ⟨_, cap, hv⟩

def dv : Nat → Int
  | 0 => 1099511627776 | 1 => 4294967296 | 2 => 16777216 | 3 => 65536 | 4 => 256 | _ => 1
theorem six_take (h : Int) (j : Nat) (hj : j < 6) : (six h).take (j + 1) = (six h).take j ++ [byteAt h (dv j)] := by
  have : j = 0 ∨ j = 1 ∨ j = 2 ∨ j = 3 ∨ j = 4 ∨ j = 5 := by omega
  rcases this with rfl | rfl | rfl | rfl | rfl | rfl <;> rfl

set_option maxHeartbeats 4000000 in
set_option maxRecDepth 100000 in
theorem appendNumber_any (base : Nat) (v : Value) (xs : List UInt8) (h : Int) (w : World) (hB : base ≤ w.heap.size) (hx : xs.length ≤ 65536) (hown : OwnB 5 base w v xs) :
    Calls Tryd.prog 40 #[v, .int .i64 h] w fun e w' => ∃ v', e = .returned v' ∧ OwnB 5 base w' v' (xs ++ six h) ∧ Below base w w' := by
  obtain ⟨i0, hi, hz0, hz1, hz2⟩ := info_parts Tryd.info5
  obtain ⟨p, cap, rfl⟩ := ownB_shape0 hown
  have HO := Lib.hid hown
  clear hown
  go_enter Tryd.func40, Tryd.ntmps40
  go_wp2_with fail
  go_loopg [0, 5] 6 (fun kx v r wr => ∃ (j : Nat) (p : Option Addr) (cap : Nat), j + kx = 6 ∧ v = .slice p (xs ++ (six h).take j).length cap ∧ r = .int .i64 (40 - 8 * (j : Int)) ∧
      Hid (OwnB 5 base wr (.slice p (xs ++ (six h).take j).length cap) (xs ++ (six h).take j)) ∧ Below base w wr)
  case atStart => exact ⟨0, p, cap, rfl, by simp, rfl, by simpa using HO, Below.refl _ _⟩
  case round =>
    obtain ⟨j, p, cap, hj, rfl, rfl, HX, hb⟩ := hrel
    have hlen : (xs ++ (six h).take j).length ≤ 65542 := by simp [six_length]; omega
    by_cases hlt : j < 6
    · have hs := six_take h j hlt
      have HS := Lib.hid hs
      clear hs
      generalize hys : xs ++ (six h).take j = ys at *
      have HY := Lib.hid hys
      clear hys
      obtain ⟨k, rfl⟩ : ∃ k, gk = k + 1 := ⟨5 - j, by omega⟩
      have : j = 0 ∨ j = 1 ∨ j = 2 ∨ j = 3 ∨ j = 4 ∨ j = 5 := by omega
      rcases this with rfl | rfl | rfl | rfl | rfl | rfl
      · go_wp2_with (at_builtin; refine wpList_append_own _ rfl _ _ 63 rfl base 5 i0 (.int .u8 0) 1 1 Tryd.underlying63 hi hz0 hz1 hz2 rfl (by decide) _ _ _ rfl (HX.out.alloc _) ⟨wr.heap.size, 0, none⟩ 1 1 [.int .u8 (h / 1099511627776 % 256)] rfl rfl ?a1 ?a2 ?a3 ?a4 ?a5 ?_)
        case a1 =>
          intro j x hj
          match j, hj with
          | 0, hj => simp at hj; subst hj; simp [Addr.add]
        case a2 => intro x hx; simp at hx; subst hx; rfl
        case a3 => unfold maxLen; omega
        case a4 => omega
        case a5 => have := hb.size; simp; omega
        intro v' w2 hown' hgrow _
        have hown3 := ownB_byte _ (byteAt h (dv 0)) (by rw [byteAt_toNat]; rfl) hown'
        have hb3 : Below base w w2 := (hb.alloc (Nat.le_trans hB hb.size) _).grown hgrow (by have := hb.size; simp; omega) fun k hk => (HX.out.lt k hk).1
        clear hown' hgrow hb
        obtain ⟨p', cap', rfl⟩ := ownB_shape0 hown3
        have HO' := Lib.hid hown3
        have HE : Hid (ys ++ [byteAt h (dv 0)] = xs ++ (six h).take (0 + 1)) := by unfold Hid; rw [HS.out, ← List.append_assoc, HY.out]
        clear hown3
        go_wp2_with fail
        go_roundg k
        case measure => omega
        case rel => exact ⟨0 + 1, p', cap', by omega, by rw [HE.out], rfl, by rw [← HE.out]; exact HO', hb3⟩
      · go_wp2_with (at_builtin; refine wpList_append_own _ rfl _ _ 63 rfl base 5 i0 (.int .u8 0) 1 1 Tryd.underlying63 hi hz0 hz1 hz2 rfl (by decide) _ _ _ rfl (HX.out.alloc _) ⟨wr.heap.size, 0, none⟩ 1 1 [.int .u8 (h / 4294967296 % 256)] rfl rfl ?b1 ?b2 ?b3 ?b4 ?b5 ?_)
        case b1 =>
          intro j x hj
          match j, hj with
          | 0, hj => simp at hj; subst hj; simp [Addr.add]
        case b2 => intro x hx; simp at hx; subst hx; rfl
        case b3 => unfold maxLen; omega
        case b4 => omega
        case b5 => have := hb.size; simp; omega
        intro v' w2 hown' hgrow _
        have hown3 := ownB_byte _ (byteAt h (dv 1)) (by rw [byteAt_toNat]; rfl) hown'
        have hb3 : Below base w w2 := (hb.alloc (Nat.le_trans hB hb.size) _).grown hgrow (by have := hb.size; simp; omega) fun k hk => (HX.out.lt k hk).1
        clear hown' hgrow hb
        obtain ⟨p', cap', rfl⟩ := ownB_shape0 hown3
        have HO' := Lib.hid hown3
        have HE : Hid (ys ++ [byteAt h (dv 1)] = xs ++ (six h).take (1 + 1)) := by unfold Hid; rw [HS.out, ← List.append_assoc, HY.out]
        clear hown3
        go_wp2_with fail
        go_roundg k
        case measure => omega
        case rel => exact ⟨1 + 1, p', cap', by omega, by rw [HE.out], rfl, by rw [← HE.out]; exact HO', hb3⟩
      · go_wp2_with (at_builtin; refine wpList_append_own _ rfl _ _ 63 rfl base 5 i0 (.int .u8 0) 1 1 Tryd.underlying63 hi hz0 hz1 hz2 rfl (by decide) _ _ _ rfl (HX.out.alloc _) ⟨wr.heap.size, 0, none⟩ 1 1 [.int .u8 (h / 16777216 % 256)] rfl rfl ?c1 ?c2 ?c3 ?c4 ?c5 ?_)
        case c1 =>
          intro j x hj
          match j, hj with
          | 0, hj => simp at hj; subst hj; simp [Addr.add]
        case c2 => intro x hx; simp at hx; subst hx; rfl
        case c3 => unfold maxLen; omega
        case c4 => omega
        case c5 => have := hb.size; simp; omega
        intro v' w2 hown' hgrow _
        have hown3 := ownB_byte _ (byteAt h (dv 2)) (by rw [byteAt_toNat]; rfl) hown'
        have hb3 : Below base w w2 := (hb.alloc (Nat.le_trans hB hb.size) _).grown hgrow (by have := hb.size; simp; omega) fun k hk => (HX.out.lt k hk).1
        clear hown' hgrow hb
        obtain ⟨p', cap', rfl⟩ := ownB_shape0 hown3
        have HO' := Lib.hid hown3
        have HE : Hid (ys ++ [byteAt h (dv 2)] = xs ++ (six h).take (2 + 1)) := by unfold Hid; rw [HS.out, ← List.append_assoc, HY.out]
        clear hown3
        go_wp2_with fail
        go_roundg k
        case measure => omega
        case rel => exact ⟨2 + 1, p', cap', by omega, by rw [HE.out], rfl, by rw [← HE.out]; exact HO', hb3⟩
      · go_wp2_with (at_builtin; refine wpList_append_own _ rfl _ _ 63 rfl base 5 i0 (.int .u8 0) 1 1 Tryd.underlying63 hi hz0 hz1 hz2 rfl (by decide) _ _ _ rfl (HX.out.alloc _) ⟨wr.heap.size, 0, none⟩ 1 1 [.int .u8 (h / 65536 % 256)] rfl rfl ?d1 ?d2 ?d3 ?d4 ?d5 ?_)
        case d1 =>
          intro j x hj
          match j, hj with
          | 0, hj => simp at hj; subst hj; simp [Addr.add]
        case d2 => intro x hx; simp at hx; subst hx; rfl
        case d3 => unfold maxLen; omega
        case d4 => omega
        case d5 => have := hb.size; simp; omega
        intro v' w2 hown' hgrow _
        have hown3 := ownB_byte _ (byteAt h (dv 3)) (by rw [byteAt_toNat]; rfl) hown'
        have hb3 : Below base w w2 := (hb.alloc (Nat.le_trans hB hb.size) _).grown hgrow (by have := hb.size; simp; omega) fun k hk => (HX.out.lt k hk).1
        clear hown' hgrow hb
        obtain ⟨p', cap', rfl⟩ := ownB_shape0 hown3
        have HO' := Lib.hid hown3
        have HE : Hid (ys ++ [byteAt h (dv 3)] = xs ++ (six h).take (3 + 1)) := by unfold Hid; rw [HS.out, ← List.append_assoc, HY.out]
        clear hown3
        go_wp2_with fail
        go_roundg k
        case measure => omega
        case rel => exact ⟨3 + 1, p', cap', by omega, by rw [HE.out], rfl, by rw [← HE.out]; exact HO', hb3⟩
      · go_wp2_with (at_builtin; refine wpList_append_own _ rfl _ _ 63 rfl base 5 i0 (.int .u8 0) 1 1 Tryd.underlying63 hi hz0 hz1 hz2 rfl (by decide) _ _ _ rfl (HX.out.alloc _) ⟨wr.heap.size, 0, none⟩ 1 1 [.int .u8 (h / 256 % 256)] rfl rfl ?e1 ?e2 ?e3 ?e4 ?e5 ?_)
        case e1 =>
          intro j x hj
          match j, hj with
          | 0, hj => simp at hj; subst hj; simp [Addr.add]
        case e2 => intro x hx; simp at hx; subst hx; rfl
        case e3 => unfold maxLen; omega
        case e4 => omega
        case e5 => have := hb.size; simp; omega
        intro v' w2 hown' hgrow _
        have hown3 := ownB_byte _ (byteAt h (dv 4)) (by rw [byteAt_toNat]; rfl) hown'
        have hb3 : Below base w w2 := (hb.alloc (Nat.le_trans hB hb.size) _).grown hgrow (by have := hb.size; simp; omega) fun k hk => (HX.out.lt k hk).1
        clear hown' hgrow hb
        obtain ⟨p', cap', rfl⟩ := ownB_shape0 hown3
        have HO' := Lib.hid hown3
        have HE : Hid (ys ++ [byteAt h (dv 4)] = xs ++ (six h).take (4 + 1)) := by unfold Hid; rw [HS.out, ← List.append_assoc, HY.out]
        clear hown3
        go_wp2_with fail
        go_roundg k
        case measure => omega
        case rel => exact ⟨4 + 1, p', cap', by omega, by rw [HE.out], rfl, by rw [← HE.out]; exact HO', hb3⟩
      · go_wp2_with (at_builtin; refine wpList_append_own _ rfl _ _ 63 rfl base 5 i0 (.int .u8 0) 1 1 Tryd.underlying63 hi hz0 hz1 hz2 rfl (by decide) _ _ _ rfl (HX.out.alloc _) ⟨wr.heap.size, 0, none⟩ 1 1 [.int .u8 (h % 256)] rfl rfl ?f1 ?f2 ?f3 ?f4 ?f5 ?_)
        case f1 =>
          intro j x hj
          match j, hj with
          | 0, hj => simp at hj; subst hj; simp [Addr.add]
        case f2 => intro x hx; simp at hx; subst hx; rfl
        case f3 => unfold maxLen; omega
        case f4 => omega
        case f5 => have := hb.size; simp; omega
        intro v' w2 hown' hgrow _
        have hown3 := ownB_byte _ (byteAt h (dv 5)) (by rw [byteAt_toNat]; show h / 1 % 256 = _; omega) hown'
        have hb3 : Below base w w2 := (hb.alloc (Nat.le_trans hB hb.size) _).grown hgrow (by have := hb.size; simp; omega) fun k hk => (HX.out.lt k hk).1
        clear hown' hgrow hb
        obtain ⟨p', cap', rfl⟩ := ownB_shape0 hown3
        have HO' := Lib.hid hown3
        have HE : Hid (ys ++ [byteAt h (dv 5)] = xs ++ (six h).take (5 + 1)) := by unfold Hid; rw [HS.out, ← List.append_assoc, HY.out]
        clear hown3
        go_wp2_with fail
        go_roundg k
        case measure => omega
        case rel => exact ⟨5 + 1, p', cap', by omega, by rw [HE.out], rfl, by rw [← HE.out]; exact HO', hb3⟩
    · obtain rfl : j = 6 := by omega
      have e : (six h).take 6 = six h := rfl
      rw [e] at *
      clear e
      go_wp2_with fail
      go_ret
      exact ⟨_, rfl, HX.out, hb⟩
end Go.Proofs.YtokplbfjpabolaaDoor
