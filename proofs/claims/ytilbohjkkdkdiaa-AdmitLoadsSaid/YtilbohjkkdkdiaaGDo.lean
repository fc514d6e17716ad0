/- The law's own do: an act done to the program's book and to the document's list; no condition but those that each row names. -/
import Derived.Test.YtilbohjkkdkdiaaGRefC
import Derived.Test.YtilbohjkkdkdiaaGCross
import Derived.Test.YtilbohjkkdkdiaaGLawA
namespace Go.Proofs.Ytilbohjkkdkdiaa
open Go.RowKit

/-- What do answers. -/
def DoPost (b : Nat) (w : World) (e : Ending) (w' : World) : Prop := ∃ v' f', e = .returned (.tuple #[v', .bool true]) ∧ BK BT w' b f' ∧ Good f' ∧ Rc w' v' (lst f' 0 64) ∧ Keeps (fun x => x = b) w w'
theorem bk_not {w : World} {b : Nat} {f : Nat → Cl} (h : BK BT w b f) : ∀ g cs fr, w.heap[g]? = some (.cells cs RT fr) → ¬ g = b := by
  intro g cs fr hg e
  subst e
  have := h.symm.trans hg
  simp only [Option.some.injEq, Obj.cells.injEq] at this
  exact absurd this.2.1 (by decide)
theorem rc_turn {w w' : World} {b : Nat} {f : Nat → Cl} {v : Value} {L : List Cl} (h : Rc w v L) (hb : BK BT w b f) (hk : Keeps (fun x => x = b) w w') : Rc w' v L := h.keeps hk (bk_not hb)

set_option maxHeartbeats 2000000 in
set_option maxRecDepth 100000 in
theorem do_0 (w : World) (b : Nat) (f f' : Nat → Cl) (v : Value) (k s n r : Int) (hb : BK BT w b f) (hv : Rc w v (lst f 0 64)) (hG : Good f') (hk : (k.tmod 5 + 5).tmod 5 = 0)
    (href : ∀ W, Rc W v (lst f 0 64) → Calls Try.prog 28 #[v, .int .i64 s, .int .i64 n] W (RAns W (lst f' 0 64) r))
    (hprog : ∀ W, BK BT W b f → Calls Try.prog 20 #[.pointer (some ⟨b, 0, none⟩), .int .i64 s, .int .i64 n] W (Turns b f' (errV r) W)) :
    Calls Try.prog 10 #[.pointer (some ⟨b, 0, none⟩), v, .agg #[.int .i64 k, .int .i64 s, .int .i64 n]] w (DoPost b w) := by
  obtain ⟨a0, a1⟩ := tm_in k 5 (by omega)
  have hk1 : (k.tmod 5 + 5) % 5 = 0 := (tm_mod k 5 (by omega)).trans hk
  have hk2 : k.tmod 5 % 5 = 0 := by omega
  have HREF := Lib.hid href
  have HPROG := Lib.hid hprog
  have HB := Lib.hid (hb.alloc (.cells #[.int .i64 k, .int .i64 s, .int .i64 n] 29))
  have HV := Lib.hid (hv.below ((Below.refl w.heap.size w).alloc (Nat.le_refl _) (.cells #[.int .i64 k, .int .i64 s, .int .i64 n] 29)))
  have HA := Lib.hid (A3.new w k s n)
  have HW := Lib.hid ((Below.refl w.heap.size w).alloc (Nat.le_refl _) (.cells #[.int .i64 k, .int .i64 s, .int .i64 n] 29))
  obtain ⟨p, cap, rfl⟩ := hv.1.shape
  generalize hL : lst f 0 64 = L at *
  generalize hL' : lst f' 0 64 = L' at *
  have HL' := Lib.hid hL'
  clear href hprog hb hv hL hL'
  go_enter Try.func10, Try.ntmps10
  go_wp2_with fail
  refine (HREF.out _ HV.out).mono ?_
  rintro e w2 ⟨v2, rfl, hr2, hb2⟩
  have HB2 := Lib.hid (HB.out.below hb2)
  have HR2 := Lib.hid hr2
  have HW2 := Lib.hid (bnext HW.out hb2)
  obtain ⟨c0, c1, c2⟩ := (HA.out.below hb2).cells
  have hz2 := lt_of_block (HA.out.below hb2)
  obtain ⟨p2, cap2, rfl⟩ := hr2.1.shape
  clear hr2 hb2
  go_wp2_with fail
  refine (HPROG.out _ HB2.out).mono ?_
  rintro e w3 ⟨rfl, hb3, hk3⟩
  have HB3 := Lib.hid hb3
  have HR3 := Lib.hid (rc_turn HR2.out HB2.out hk3)
  have HK3 := Lib.hid ((kbel HW2.out).trans hk3)
  clear hb3 hk3 c0 c1 c2 hz2
  go_wp2_with fail
  refine (num_any r _).mono ?_
  rintro e w4 ⟨rfl, rfl⟩
  go_wp2_with fail
  go_ret2
  exact ⟨_, f', rfl, HB3.out, hG, by rw [HL'.out]; exact HR3.out, HK3.out⟩
set_option maxHeartbeats 2000000 in
set_option maxRecDepth 100000 in
theorem do_1 (w : World) (b : Nat) (f f' : Nat → Cl) (v : Value) (k s n r : Int) (hb : BK BT w b f) (hv : Rc w v (lst f 0 64)) (hG : Good f') (hk : (k.tmod 5 + 5).tmod 5 = 1)
    (href : ∀ W, Rc W v (lst f 0 64) → Calls Try.prog 29 #[v, .int .i64 s, .int .i64 n] W (RAns W (lst f' 0 64) r))
    (hprog : ∀ W, BK BT W b f → Calls Try.prog 21 #[.pointer (some ⟨b, 0, none⟩), .int .i64 s, .int .i64 n] W (Turns b f' (errV r) W)) :
    Calls Try.prog 10 #[.pointer (some ⟨b, 0, none⟩), v, .agg #[.int .i64 k, .int .i64 s, .int .i64 n]] w (DoPost b w) := by
  obtain ⟨a0, a1⟩ := tm_in k 5 (by omega)
  have hk1 : (k.tmod 5 + 5) % 5 = 1 := (tm_mod k 5 (by omega)).trans hk
  have hk2 : k.tmod 5 % 5 = 1 := by omega
  have HREF := Lib.hid href
  have HPROG := Lib.hid hprog
  have HB := Lib.hid (hb.alloc (.cells #[.int .i64 k, .int .i64 s, .int .i64 n] 29))
  have HV := Lib.hid (hv.below ((Below.refl w.heap.size w).alloc (Nat.le_refl _) (.cells #[.int .i64 k, .int .i64 s, .int .i64 n] 29)))
  have HA := Lib.hid (A3.new w k s n)
  have HW := Lib.hid ((Below.refl w.heap.size w).alloc (Nat.le_refl _) (.cells #[.int .i64 k, .int .i64 s, .int .i64 n] 29))
  obtain ⟨p, cap, rfl⟩ := hv.1.shape
  generalize hL : lst f 0 64 = L at *
  generalize hL' : lst f' 0 64 = L' at *
  have HL' := Lib.hid hL'
  clear href hprog hb hv hL hL'
  go_enter Try.func10, Try.ntmps10
  go_wp2_with fail
  refine (HREF.out _ HV.out).mono ?_
  rintro e w2 ⟨v2, rfl, hr2, hb2⟩
  have HB2 := Lib.hid (HB.out.below hb2)
  have HR2 := Lib.hid hr2
  have HW2 := Lib.hid (bnext HW.out hb2)
  obtain ⟨c0, c1, c2⟩ := (HA.out.below hb2).cells
  have hz2 := lt_of_block (HA.out.below hb2)
  obtain ⟨p2, cap2, rfl⟩ := hr2.1.shape
  clear hr2 hb2
  go_wp2_with fail
  refine (HPROG.out _ HB2.out).mono ?_
  rintro e w3 ⟨rfl, hb3, hk3⟩
  have HB3 := Lib.hid hb3
  have HR3 := Lib.hid (rc_turn HR2.out HB2.out hk3)
  have HK3 := Lib.hid ((kbel HW2.out).trans hk3)
  clear hb3 hk3 c0 c1 c2 hz2
  go_wp2_with fail
  refine (num_any r _).mono ?_
  rintro e w4 ⟨rfl, rfl⟩
  go_wp2_with fail
  go_ret2
  exact ⟨_, f', rfl, HB3.out, hG, by rw [HL'.out]; exact HR3.out, HK3.out⟩
set_option maxHeartbeats 2000000 in
set_option maxRecDepth 100000 in
theorem do_2 (w : World) (b : Nat) (f f' : Nat → Cl) (v : Value) (k s n r : Int) (hb : BK BT w b f) (hv : Rc w v (lst f 0 64)) (hG : Good f') (hk : (k.tmod 5 + 5).tmod 5 = 2)
    (href : ∀ W, Rc W v (lst f 0 64) → Calls Try.prog 30 #[v, .int .i64 s] W (RAns W (lst f' 0 64) r))
    (hprog : ∀ W, BK BT W b f → Calls Try.prog 22 #[.pointer (some ⟨b, 0, none⟩), .int .i64 s] W (Turns b f' (errV r) W)) :
    Calls Try.prog 10 #[.pointer (some ⟨b, 0, none⟩), v, .agg #[.int .i64 k, .int .i64 s, .int .i64 n]] w (DoPost b w) := by
  obtain ⟨a0, a1⟩ := tm_in k 5 (by omega)
  have hk1 : (k.tmod 5 + 5) % 5 = 2 := (tm_mod k 5 (by omega)).trans hk
  have hk2 : k.tmod 5 % 5 = 2 := by omega
  have HREF := Lib.hid href
  have HPROG := Lib.hid hprog
  have HB := Lib.hid (hb.alloc (.cells #[.int .i64 k, .int .i64 s, .int .i64 n] 29))
  have HV := Lib.hid (hv.below ((Below.refl w.heap.size w).alloc (Nat.le_refl _) (.cells #[.int .i64 k, .int .i64 s, .int .i64 n] 29)))
  have HA := Lib.hid (A3.new w k s n)
  have HW := Lib.hid ((Below.refl w.heap.size w).alloc (Nat.le_refl _) (.cells #[.int .i64 k, .int .i64 s, .int .i64 n] 29))
  obtain ⟨p, cap, rfl⟩ := hv.1.shape
  generalize hL : lst f 0 64 = L at *
  generalize hL' : lst f' 0 64 = L' at *
  have HL' := Lib.hid hL'
  clear href hprog hb hv hL hL'
  go_enter Try.func10, Try.ntmps10
  go_wp2_with fail
  refine (HREF.out _ HV.out).mono ?_
  rintro e w2 ⟨v2, rfl, hr2, hb2⟩
  have HB2 := Lib.hid (HB.out.below hb2)
  have HR2 := Lib.hid hr2
  have HW2 := Lib.hid (bnext HW.out hb2)
  obtain ⟨c0, c1, c2⟩ := (HA.out.below hb2).cells
  have hz2 := lt_of_block (HA.out.below hb2)
  obtain ⟨p2, cap2, rfl⟩ := hr2.1.shape
  clear hr2 hb2
  go_wp2_with fail
  refine (HPROG.out _ HB2.out).mono ?_
  rintro e w3 ⟨rfl, hb3, hk3⟩
  have HB3 := Lib.hid hb3
  have HR3 := Lib.hid (rc_turn HR2.out HB2.out hk3)
  have HK3 := Lib.hid ((kbel HW2.out).trans hk3)
  clear hb3 hk3 c0 c1 c2 hz2
  go_wp2_with fail
  refine (num_any r _).mono ?_
  rintro e w4 ⟨rfl, rfl⟩
  go_wp2_with fail
  go_ret2
  exact ⟨_, f', rfl, HB3.out, hG, by rw [HL'.out]; exact HR3.out, HK3.out⟩
set_option maxHeartbeats 2000000 in
set_option maxRecDepth 100000 in
theorem do_3 (w : World) (b : Nat) (f f' : Nat → Cl) (v : Value) (k s n r what kd : Int) (hb : BK BT w b f) (hv : Rc w v (lst f 0 64)) (hG : Good f') (hk : (k.tmod 5 + 5).tmod 5 = kd) (hkd : 3 ≤ kd)
    (href : ∀ W, Rc W v (lst f 0 64) → Calls Try.prog 31 #[v, .int .i64 s] W (RAns3 W (lst f' 0 64) what r))
    (hprog : ∀ W, BK BT W b f → Calls Try.prog 18 #[.pointer (some ⟨b, 0, none⟩), .int .i64 s] W (Crossed b f' r what W)) :
    Calls Try.prog 10 #[.pointer (some ⟨b, 0, none⟩), v, .agg #[.int .i64 k, .int .i64 s, .int .i64 n]] w (DoPost b w) := by
  obtain ⟨a0, a1⟩ := tm_in k 5 (by omega)
  have hk1 : (k.tmod 5 + 5) % 5 = kd := (tm_mod k 5 (by omega)).trans hk
  have hk2 : k.tmod 5 % 5 = kd := by omega
  have e0 : (kd == 0) = false := by simp; omega
  have e1 : (kd == 1) = false := by simp; omega
  have e2 : (kd == 2) = false := by simp; omega
  have HREF := Lib.hid href
  have HPROG := Lib.hid hprog
  have HB := Lib.hid (hb.alloc (.cells #[.int .i64 k, .int .i64 s, .int .i64 n] 29))
  have HV := Lib.hid (hv.below ((Below.refl w.heap.size w).alloc (Nat.le_refl _) (.cells #[.int .i64 k, .int .i64 s, .int .i64 n] 29)))
  have HA := Lib.hid (A3.new w k s n)
  have HW := Lib.hid ((Below.refl w.heap.size w).alloc (Nat.le_refl _) (.cells #[.int .i64 k, .int .i64 s, .int .i64 n] 29))
  obtain ⟨p, cap, rfl⟩ := hv.1.shape
  generalize hL : lst f 0 64 = L at *
  generalize hL' : lst f' 0 64 = L' at *
  have HL' := Lib.hid hL'
  clear href hprog hb hv hL hL'
  go_enter Try.func10, Try.ntmps10
  go_wp2_with fail
  refine (HREF.out _ HV.out).mono ?_
  rintro e w2 ⟨v2, rfl, hr2, hb2⟩
  have HB2 := Lib.hid (HB.out.below hb2)
  have HR2 := Lib.hid hr2
  have HW2 := Lib.hid (bnext HW.out hb2)
  obtain ⟨c0, c1, c2⟩ := (HA.out.below hb2).cells
  have hz2 := lt_of_block (HA.out.below hb2)
  obtain ⟨p2, cap2, rfl⟩ := hr2.1.shape
  clear hr2 hb2
  go_wp2_with fail
  refine (HPROG.out _ HB2.out).mono ?_
  rintro e w3 ⟨rfl, hb3, hk3⟩
  have HB3 := Lib.hid hb3
  have HR3 := Lib.hid (rc_turn HR2.out HB2.out hk3)
  have HK3 := Lib.hid ((kbel HW2.out).trans hk3)
  clear hb3 hk3 c0 c1 c2 hz2
  go_wp2_with fail
  refine (num_any r _).mono ?_
  rintro e w4 ⟨rfl, rfl⟩
  go_wp2_with fail
  go_ret2
  exact ⟨_, f', rfl, HB3.out, hG, by rw [HL'.out]; exact HR3.out, HK3.out⟩
theorem do_any (w : World) (b : Nat) (f : Nat → Cl) (v : Value) (k s n : Int) (hb : BK BT w b f) (hG : Good f) (hv : Rc w v (lst f 0 64)) :
    Calls Try.prog 10 #[.pointer (some ⟨b, 0, none⟩), v, .agg #[.int .i64 k, .int .i64 s, .int .i64 n]] w (DoPost b w) := by
  obtain ⟨h0, h1⟩ := tm_nat k 5 (by omega)
  rcases (by omega : (k.tmod 5 + 5).tmod 5 = 0 ∨ (k.tmod 5 + 5).tmod 5 = 1 ∨ (k.tmod 5 + 5).tmod 5 = 2 ∨ 3 ≤ (k.tmod 5 + 5).tmod 5) with h | h | h | h
  · exact do_0 w b f (addF f s n) v k s n (addE f s n) hb hv (add_good hG s n) h (fun W hW => radd_any W v f s n hG hW) (fun W hW => add_any b f s n W hW hG)
  · exact do_1 w b f (resF f s n) v k s n (resE f s n) hb hv (res_good hG s n) h (fun W hW => rres_any W v f s n hG hW) (fun W hW => resize_any b f s n W hW hG)
  · exact do_2 w b f (dieF f s) v k s n (dieE f s) hb hv (die_good hG s) h (fun W hW => rdie_any W v f s hG hW) (fun W hW => die_any b f s W hW hG)
  · exact do_3 w b f (croF f s) v k s n (croE f s) (croW f s) _ hb hv (cro_good hG s) rfl h (fun W hW => rcro_any W v f s hG hW) (fun W hW => cross_any b f s W hW hG)
end Go.Proofs.Ytilbohjkkdkdiaa
