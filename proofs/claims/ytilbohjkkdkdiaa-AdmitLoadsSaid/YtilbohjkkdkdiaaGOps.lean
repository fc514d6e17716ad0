/- The program's Add, Resize, Die, Cross: what each answers and what it leaves; no condition but those that each row names. -/
import Derived.Test.YtilbohjkkdkdiaaGPut
import Derived.Test.YtilbohjkkdkdiaaGAct
namespace Go.Proofs.Ytilbohjkkdkdiaa
open Go.RowKit

theorem kset {b o : Nat} {w W : World} (h : Keeps (fun x => x = b) w W) (v : Value) : Keeps (fun x => x = b) w (W.setCell ⟨b, o, none⟩ v) := h.setCell _ _ (.inl rfl)
theorem kbel {b : Nat} {w W : World} (h : Below w.heap.size w W) : Keeps (fun x => x = b) w W := Keeps.of_below h
theorem turns_same {b : Nat} {f : Nat → Cl} {w W : World} {r : Value} (hb : BK BT w b f) (h : Below w.heap.size w W) : Turns b f r w (.returned r) W := ⟨rfl, hb.below h, Keeps.of_below h⟩
theorem turns_from {b : Nat} {f' : Nat → Cl} {w W W' : World} {r : Value} {e : Ending} (h : Below w.heap.size w W) (ht : Turns b f' r W e W') : Turns b f' r w e W' := ⟨ht.1, ht.2.1, (Keeps.of_below h).trans ht.2.2⟩

theorem add_nil (s n : Int) (w : World) : Calls Try.prog 20 #[.pointer none, .int .i64 s, .int .i64 n] w fun e w' => e = .returned (.iface 69 (.int .i64 50)) ∧ Below w.heap.size w w' := by
  go_enter Try.func20, Try.ntmps20
  go_wp2_with fail
  go_ret
  exact ⟨rfl, Below.refl _ _⟩
set_option maxHeartbeats 2000000 in
theorem add_any (b : Nat) (f : Nat → Cl) (s n : Int) (w : World) (hb : BK BT w b f) (hG : Good f) :
    Calls Try.prog 20 #[.pointer (some ⟨b, 0, none⟩), .int .i64 s, .int .i64 n] w (Turns b (addF f s n) (errV (addE f s n)) w) := by
  have hw := add_way hG s n
  generalize addE f s n = r at *
  generalize addF f s n = f' at *
  have HB := Lib.hid hb
  have HG := Lib.hid hG
  cases hw with
  | arg h =>
    have HS := Lib.hid fun w => slot_no s w h
    clear hb hG h
    go_enter Try.func20, Try.ntmps20
    go_wp2_with fail
    refine (HS.out _).mono ?_
    rintro e w1 ⟨rfl, rfl⟩
    go_wp2_with fail
    go_ret
    exact turns_same HB.out (Below.refl _ _)
  | room k hs hk h =>
    subst hs
    have HS := Lib.hid fun w => slot_yes k w (by omega) (by omega)
    have HO := Lib.hid (of_there b f k w hk hb h)
    clear hb hG h
    go_enter Try.func20, Try.ntmps20
    go_wp2_with fail
    refine (HS.out _).mono ?_
    rintro e w1 ⟨rfl, rfl⟩
    go_wp2_with fail
    refine HO.out.mono ?_
    rintro e w2 ⟨rfl, hb2⟩
    have HB2 := Lib.hid hb2
    clear hb2
    go_wp2_with fail
    go_ret
    have hbw := HB2.out
    have hz := hbw.size
    exact turns_same HB.out (by repeat (first | exact Below.refl _ _ | (with_reducible assumption) | refine Below.drew ?_ | (refine Below.alloc ?_ (by first | exact Nat.le_refl _ | omega | (simp; done) | (simp; omega)) _) | (refine Below.setCell ?_ (by first | omega | (simp; done) | (simp; omega)) _)))
  | range k hs hk h hn =>
    subst hs
    have HS := Lib.hid fun w => slot_yes k w (by omega) (by omega)
    have HO := Lib.hid (of_gone b f k w hk hb h)
    have HN := Lib.hid fun w => share_no n w hn
    clear hb hG h hn
    go_enter Try.func20, Try.ntmps20
    go_wp2_with fail
    refine (HS.out _).mono ?_
    rintro e w1 ⟨rfl, rfl⟩
    go_wp2_with fail
    refine HO.out.mono ?_
    rintro e w2 ⟨rfl, hb2⟩
    have HB2 := Lib.hid hb2
    clear hb2
    go_wp2_with fail
    refine (HN.out _).mono ?_
    rintro e w3 ⟨rfl, rfl⟩
    go_wp2_with fail
    go_ret
    have hbw := HB2.out
    have hz := hbw.size
    exact turns_same HB.out (by repeat (first | exact Below.refl _ _ | (with_reducible assumption) | refine Below.drew ?_ | (refine Below.alloc ?_ (by first | exact Nat.le_refl _ | omega | (simp; done) | (simp; omega)) _) | (refine Below.setCell ?_ (by first | omega | (simp; done) | (simp; omega)) _)))
  | over k hs hk h h1 h2 ho =>
    subst hs
    have HS := Lib.hid fun w => slot_yes k w (by omega) (by omega)
    have HO := Lib.hid (of_gone b f k w hk hb h)
    have HN := Lib.hid fun w => share_yes n w h1 h2
    have hcn : cnt ⟨k, n, 0, false⟩ = n := by unfold cnt; simp only; omega
    have HP := Lib.hid fun w (hb : BK BT w b f) => put_any b f k n 0 false w hk hb hG.small (by omega) (by omega) 80 f (.inr ⟨by rw [h, cnt_zc, hcn]; omega, rfl, rfl⟩)
    clear hb hG h h1 h2 ho hcn
    go_enter Try.func20, Try.ntmps20
    go_wp2_with fail
    refine (HS.out _).mono ?_
    rintro e w1 ⟨rfl, rfl⟩
    go_wp2_with fail
    refine HO.out.mono ?_
    rintro e w2 ⟨rfl, hb2⟩
    have HB2 := Lib.hid hb2
    clear hb2
    go_wp2_with fail
    refine (HN.out _).mono ?_
    rintro e w3 ⟨rfl, rfl⟩
    go_wp2_with fail
    refine (HP.out _ ((HB.out.below HB2.out).alloc _)).mono ?_
    rintro e w4 ⟨rfl, hb4, hk4⟩
    have HE := Lib.hid (show Turns b f (errV 80) w (.returned (errV 80)) w4 from ⟨rfl, hb4, (Keeps.of_below (HB2.out.alloc HB2.out.size _)).trans hk4⟩)
    clear hb4 hk4
    go_wp2_with fail
    go_ret
    exact HE.out
  | ok k hs hk h h1 h2 ho =>
    subst hs
    have HS := Lib.hid fun w => slot_yes k w (by omega) (by omega)
    have HO := Lib.hid (of_gone b f k w hk hb h)
    have HN := Lib.hid fun w => share_yes n w h1 h2
    have hcn : cnt ⟨k, n, 0, false⟩ = n := by unfold cnt; simp only; omega
    have HP := Lib.hid fun w (hb : BK BT w b f) => put_any b f k n 0 false w hk hb hG.small (by omega) (by omega) 0 _ (.inl ⟨by rw [h, cnt_zc, hcn]; omega, rfl, rfl⟩)
    clear hb hG h h1 h2 ho hcn
    go_enter Try.func20, Try.ntmps20
    go_wp2_with fail
    refine (HS.out _).mono ?_
    rintro e w1 ⟨rfl, rfl⟩
    go_wp2_with fail
    refine HO.out.mono ?_
    rintro e w2 ⟨rfl, hb2⟩
    have HB2 := Lib.hid hb2
    clear hb2
    go_wp2_with fail
    refine (HN.out _).mono ?_
    rintro e w3 ⟨rfl, rfl⟩
    go_wp2_with fail
    refine (HP.out _ ((HB.out.below HB2.out).alloc _)).mono ?_
    rintro e w4 ⟨rfl, hb4, hk4⟩
    have HE := Lib.hid (show Turns b (upd f k ⟨k, n, 0, false⟩) (errV 0) w (.returned (errV 0)) w4 from ⟨rfl, hb4, (Keeps.of_below (HB2.out.alloc HB2.out.size _)).trans hk4⟩)
    clear hb4 hk4
    go_wp2_with fail
    go_ret
    exact HE.out

/-- Resize and Die, where the claim is not to be had. -/
theorem resize_err (p : Value) (s n r : Int) (w : World) (h : Calls Try.prog 42 #[p, .int .i64 s] w fun e w' => e = .returned (.tuple #[(.agg #[.int .i64 0, .int .i64 0, .int .i64 0, .bool false]), .iface 69 (.int .i64 r)]) ∧ Below w.heap.size w w') :
    Calls Try.prog 21 #[p, .int .i64 s, .int .i64 n] w fun e w' => e = .returned (.iface 69 (.int .i64 r)) ∧ Below w.heap.size w w' := by
  have HO := Lib.hid h
  clear h
  go_enter Try.func21, Try.ntmps21
  go_wp2_with fail
  refine HO.out.mono ?_
  rintro e w2 ⟨rfl, hb2⟩
  have HB2 := Lib.hid hb2
  clear hb2
  go_wp2_with fail
  go_ret
  have hbw := HB2.out
  have hz := hbw.size
  exact ⟨rfl, (by repeat (first | exact Below.refl _ _ | (with_reducible assumption) | refine Below.drew ?_ | (refine Below.alloc ?_ (by first | exact Nat.le_refl _ | omega | (simp; done) | (simp; omega)) _) | (refine Below.setCell ?_ (by first | omega | (simp; done) | (simp; omega)) _)))⟩
theorem die_err (p : Value) (s r : Int) (w : World) (h : Calls Try.prog 42 #[p, .int .i64 s] w fun e w' => e = .returned (.tuple #[(.agg #[.int .i64 0, .int .i64 0, .int .i64 0, .bool false]), .iface 69 (.int .i64 r)]) ∧ Below w.heap.size w w') :
    Calls Try.prog 22 #[p, .int .i64 s] w fun e w' => e = .returned (.iface 69 (.int .i64 r)) ∧ Below w.heap.size w w' := by
  have HO := Lib.hid h
  clear h
  go_enter Try.func22, Try.ntmps22
  go_wp2_with fail
  refine HO.out.mono ?_
  rintro e w2 ⟨rfl, hb2⟩
  have HB2 := Lib.hid hb2
  clear hb2
  go_wp2_with fail
  go_ret
  have hbw := HB2.out
  have hz := hbw.size
  exact ⟨rfl, (by repeat (first | exact Below.refl _ _ | (with_reducible assumption) | refine Below.drew ?_ | (refine Below.alloc ?_ (by first | exact Nat.le_refl _ | omega | (simp; done) | (simp; omega)) _) | (refine Below.setCell ?_ (by first | omega | (simp; done) | (simp; omega)) _)))⟩
theorem turns_err {b : Nat} {f : Nat → Cl} {w : World} {r : Int} (hr : r ≠ 0) (hb : BK BT w b f) {e : Ending} {w' : World} (h : e = .returned (.iface 69 (.int .i64 r)) ∧ Below w.heap.size w w') : Turns b f (errV r) w e w' := by
  obtain ⟨rfl, h⟩ := h
  rw [errV_ne hr]
  exact turns_same hb h
set_option maxHeartbeats 2000000 in
theorem resize_any (b : Nat) (f : Nat → Cl) (s n : Int) (w : World) (hb : BK BT w b f) (hG : Good f) :
    Calls Try.prog 21 #[.pointer (some ⟨b, 0, none⟩), .int .i64 s, .int .i64 n] w (Turns b (resF f s n) (errV (resE f s n)) w) := by
  have hw := res_way hG s n
  generalize resE f s n = r at *
  generalize resF f s n = f' at *
  cases hw with
  | no h => exact (resize_err _ s n 20 w (living_no b f s w hb hG h)).mono fun e w' => turns_err (by decide) hb
  | dying k a x hs hk h ha => subst hs; exact (resize_err _ k n 92 w (living_dying b f k a x w hk hb h ha)).mono fun e w' => turns_err (by decide) hb
  | range k a x hs hk h ha hn =>
    subst hs
    have HB := Lib.hid hb
    have HO := Lib.hid (living_yes b f k a x w hk hb h ha)
    have HN := Lib.hid fun w => share_no n w hn
    clear hb hG h hn ha
    go_enter Try.func21, Try.ntmps21
    go_wp2_with fail
    refine HO.out.mono ?_
    rintro e w2 ⟨rfl, hb2⟩
    have HB2 := Lib.hid hb2
    clear hb2
    go_wp2_with fail
    refine (HN.out _).mono ?_
    rintro e w3 ⟨rfl, rfl⟩
    go_wp2_with fail
    go_ret
    have hbw := HB2.out
    have hz := hbw.size
    exact turns_same HB.out (by repeat (first | exact Below.refl _ _ | (with_reducible assumption) | refine Below.drew ?_ | (refine Below.alloc ?_ (by first | exact Nat.le_refl _ | omega | (simp; done) | (simp; omega)) _) | (refine Below.setCell ?_ (by first | omega | (simp; done) | (simp; omega)) _)))
  | over k a x hs hk h ha ha2 h1 h2 ho =>
    subst hs
    have HB := Lib.hid hb
    have HO := Lib.hid (living_yes b f k a x w hk hb h ha)
    have HN := Lib.hid fun w => share_yes n w h1 h2
    have hcn : 0 ≤ cnt ⟨k, a, n, false⟩ ∧ cnt ⟨k, a, n, false⟩ ≤ 1048576 := cnt_in ha ha2 (by simp only; omega) h2
    have HP := Lib.hid fun w (hb : BK BT w b f) => put_any b f k a n false w hk hb hG.small hcn.1 hcn.2 80 f (.inr ⟨ho, rfl, rfl⟩)
    clear hb hG h h1 h2 ho hcn ha ha2
    go_enter Try.func21, Try.ntmps21
    go_wp2_with fail
    refine HO.out.mono ?_
    rintro e w2 ⟨rfl, hb2⟩
    have HB2 := Lib.hid hb2
    clear hb2
    go_wp2_with fail
    refine (HN.out _).mono ?_
    rintro e w3 ⟨rfl, rfl⟩
    go_wp2_with fail
    refine (HP.out _ ((HB.out.below HB2.out).alloc _)).mono ?_
    rintro e w4 ⟨rfl, hb4, hk4⟩
    have HE := Lib.hid (show Turns b f (errV 80) w (.returned (errV 80)) w4 from ⟨rfl, hb4, (Keeps.of_below (HB2.out.alloc HB2.out.size _)).trans hk4⟩)
    clear hb4 hk4
    go_wp2_with fail
    go_ret
    exact HE.out
  | ok k a x hs hk h ha ha2 h1 h2 ho =>
    subst hs
    have HB := Lib.hid hb
    have HO := Lib.hid (living_yes b f k a x w hk hb h ha)
    have HN := Lib.hid fun w => share_yes n w h1 h2
    have hcn : 0 ≤ cnt ⟨k, a, n, false⟩ ∧ cnt ⟨k, a, n, false⟩ ≤ 1048576 := cnt_in ha ha2 (by simp only; omega) h2
    have HP := Lib.hid fun w (hb : BK BT w b f) => put_any b f k a n false w hk hb hG.small hcn.1 hcn.2 0 _ (.inl ⟨ho, rfl, rfl⟩)
    clear hb hG h h1 h2 ho hcn ha ha2
    go_enter Try.func21, Try.ntmps21
    go_wp2_with fail
    refine HO.out.mono ?_
    rintro e w2 ⟨rfl, hb2⟩
    have HB2 := Lib.hid hb2
    clear hb2
    go_wp2_with fail
    refine (HN.out _).mono ?_
    rintro e w3 ⟨rfl, rfl⟩
    go_wp2_with fail
    refine (HP.out _ ((HB.out.below HB2.out).alloc _)).mono ?_
    rintro e w4 ⟨rfl, hb4, hk4⟩
    have HE := Lib.hid (show Turns b (upd f k ⟨k, a, n, false⟩) (errV 0) w (.returned (errV 0)) w4 from ⟨rfl, hb4, (Keeps.of_below (HB2.out.alloc HB2.out.size _)).trans hk4⟩)
    clear hb4 hk4
    go_wp2_with fail
    go_ret
    exact HE.out
set_option maxHeartbeats 2000000 in
theorem die_any (b : Nat) (f : Nat → Cl) (s : Int) (w : World) (hb : BK BT w b f) (hG : Good f) :
    Calls Try.prog 22 #[.pointer (some ⟨b, 0, none⟩), .int .i64 s] w (Turns b (dieF f s) (errV (dieE f s)) w) := by
  have hw := die_way hG s
  generalize dieE f s = r at *
  generalize dieF f s = f' at *
  cases hw with
  | no h => exact (die_err _ s 20 w (living_no b f s w hb hG h)).mono fun e w' => turns_err (by decide) hb
  | dying k a x hs hk h ha => subst hs; exact (die_err _ k 92 w (living_dying b f k a x w hk hb h ha)).mono fun e w' => turns_err (by decide) hb
  | ok k a x hs hk h ha ha2 hx hx2 =>
    subst hs
    have HB := Lib.hid hb
    have HO := Lib.hid (living_yes b f k a x w hk hb h ha)
    have HH := Lib.hid h
    have hk' : (k : Int) < 64 := by omega
    clear hb hG h ha ha2 hx hx2
    go_enter Try.func22, Try.ntmps22
    go_wp2_with fail
    refine HO.out.mono ?_
    rintro e w2 ⟨rfl, hb2⟩
    obtain ⟨c0, c1, c2, c3⟩ := (HB.out.below hb2).cells k hk
    have f3 := (HB.out.below hb2).free (k * 4 + 3)
    have hlt := (HB.out.below hb2).lt
    have hS := (HB.out.below hb2).setD k hk true
    rw [HH.out] at hS c3
    simp only at hS
    have HE := Lib.hid (show Turns b (upd f k ⟨k, a, x, true⟩) (errV 0) w (.returned .nilIface) _ from ⟨rfl, hS.alloc (.cells #[.int .i64 k, .int .i64 a, .int .i64 x, .bool false] 35), (kset (kbel hb2) _).alloc _⟩)
    clear hb2 c0 c1 c2 hS
    go_wp2_with fail
    go_ret
    exact HE.out
theorem cross_err (p : Value) (s r : Int) (w : World) (h : Calls Try.prog 38 #[p, .int .i64 s] w fun e w' => e = .returned (.tuple #[(.agg #[.int .i64 0, .int .i64 0, .int .i64 0, .bool false]), .iface 69 (.int .i64 r)]) ∧ Below w.heap.size w w') :
    Calls Try.prog 18 #[p, .int .i64 s] w fun e w' => e = .returned (.tuple #[.int .i64 0, .iface 69 (.int .i64 r)]) ∧ Below w.heap.size w w' := by
  have HO := Lib.hid h
  clear h
  go_enter Try.func18, Try.ntmps18
  go_wp2_with fail
  refine HO.out.mono ?_
  rintro e w2 ⟨rfl, hb2⟩
  have HB2 := Lib.hid hb2
  clear hb2
  go_wp2_with fail
  go_ret2
  have hbw := HB2.out
  have hz := hbw.size
  exact ⟨rfl, (by repeat (first | exact Below.refl _ _ | (with_reducible assumption) | refine Below.drew ?_ | (refine Below.alloc ?_ (by first | exact Nat.le_refl _ | omega | (simp; done) | (simp; omega)) _) | (refine Below.setCell ?_ (by first | omega | (simp; done) | (simp; omega)) _)))⟩
end Go.Proofs.Ytilbohjkkdkdiaa
