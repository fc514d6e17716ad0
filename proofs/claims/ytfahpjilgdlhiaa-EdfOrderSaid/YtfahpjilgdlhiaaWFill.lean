/- fill: each item's child gets its whole budget where a period begins; no condition but those that each row names. -/
import Derived.Test.YtfahpjilgdlhiaaWPick
import Derived.Test.YtfahpjilgdlhiaaWDem
namespace Go.Proofs.Ytfahpjilgdlhiaa
open Go.RowKit Edf

theorem bg_begins (x : It) (hp : 1 ≤ x.p) (t : Nat) : bg x t = t ↔ Begins x t := by
  constructor
  · intro h
    unfold bg at h
    refine ⟨by omega, ?_⟩
    rw [show t - x.s = bk x t * x.p by omega]
    exact Nat.mul_mod_left _ _
  · intro ⟨h1, h2⟩
    have h3 := Nat.div_add_mod (t - x.s) x.p
    rw [h2, Nat.mul_comm] at h3
    have h4 := bk_le x hp (a := t) (k := (t - x.s) / x.p) (by omega)
    have h5 := bg_ge x hp t
    have h6 := Nat.mul_le_mul_right x.p h4
    unfold bg at *
    omega
/-- The children behind fill. -/
def filC (I : Nat → It) (t : Nat) (cs : Nat → Tri) (i : Nat) : Tri := if Begins (I i) t then ⟨i, (I i).q, (t + (I i).p : Nat)⟩ else cs i
def upto (f g : Nat → Tri) (k : Nat) (i : Nat) : Tri := if i < k then f i else g i
abbrev ChT : TypeId := 25
theorem keeps_set3 {W : World} {G : Nat} (a b c : Nat) (u0 u1 u2 : Value) : Keeps (fun x => x = G) W (((W.setCell ⟨G, a, none⟩ u0).setCell ⟨G, b, none⟩ u1).setCell ⟨G, c, none⟩ u2) :=
  (((Keeps.refl (fun x => x = G) W).setCell ⟨G, a, none⟩ u0 rfl).setCell ⟨G, b, none⟩ u1 rfl).setCell ⟨G, c, none⟩ u2 rfl
def FillPost (I : Nat → It) (t : Nat) (cs : Nat → Tri) (B n G : Nat) (w : World) (e : Ending) (w' : World) : Prop := e = .returned (.tuple #[]) ∧ TrisO ChT B w' (.slice (some ⟨G, 0, none⟩) n n) n (filC I t cs) ∧ Keeps (fun x => x = G) w w'

set_option maxHeartbeats 4000000 in
set_option maxRecDepth 100000 in
theorem fill_any (w : World) (I : Nat → It) (hB : ∀ i, ItB (I i)) (n : Nat) (h64 : n ≤ 64) (lv : Value) (G B : Nat) (cs : Nat → Tri) (t : Nat) (ht : t ≤ 4096) (hl : ∀ W, Keeps (fun x => x = G) w W → Tris W lv n (fun i => ofIt (I i)))
    (ho : TrisO ChT B w (.slice (some ⟨G, 0, none⟩) n n) n cs) :
    Calls Try.prog 36 #[.slice (some ⟨G, 0, none⟩) n n, lv, .int .i64 (t : Nat)] w (FillPost I t cs B n G w) := by
  have HV := Lib.hid hl
  obtain ⟨p, cap, rfl, hm, hdrop⟩ := hl w (Keeps.refl _ _)
  clear hdrop hl
  have HIB := Lib.hid hB
  have HBG := Lib.hid (fun i w => begin_any (I i) (hB i) t (by omega) w)
  have HO0 := Lib.hid (show TrisO ChT B w (.slice (some ⟨G, 0, none⟩) n n) n (upto (filC I t cs) cs 0) from by
    have e : triL (upto (filC I t cs) cs 0) n = triL cs n := triL_congr fun i _ => by unfold upto; rw [if_neg (by omega)]
    rw [TrisO, e]; exact ho)
  have hGB := (World.ownsRow.lt ho G rfl).1
  clear hB ho
  go_enter Try.func36, Try.ntmps36
  go_wp2_with fail
  go_loopw [10] (fun iv wr => ∃ (k : Nat), k ≤ n ∧ iv = .int .i64 k ∧ Hid (TrisO ChT B wr (.slice (some ⟨G, 0, none⟩) n n) n (upto (filC I t cs) cs k)) ∧ Hid (Keeps (fun x => x = G) w wr)) (fun iv _ => n - (intOf iv).toNat)
  case atStart => exact ⟨0, Nat.zero_le _, rfl, HO0, Lib.hid (Keeps.refl _ _)⟩
  case round =>
    obtain ⟨k, hk, rfl, HO, HK⟩ := hrel
    by_cases hlt : k < n
    · have hlt' : (k : Int) < (n : Int) := by omega
      have k0 : (0 : Int) ≤ (k : Int) := by omega
      obtain ⟨b1, off, _, hsl, c0, c1, c2⟩ := its_at (HV.out wr HK.out) k hlt
      injection hsl with hs1 hs2 hs3
      subst hs1 hs3
      clear hs2
      have HIBk := Lib.hid (HIB.out k)
      have hp1 : 1 ≤ (I k).p := by have := (HIB.out k).q1; have := (HIB.out k).qp; omega
      have hp2 := (HIB.out k).p2
      have HBK := Lib.hid (HBG.out k)
      have HBE := Lib.hid (bg_begins (I k) hp1 t)
      have HF := Lib.hid (show filC I t cs k = if Begins (I k) t then ⟨k, (I k).q, (t + (I k).p : Nat)⟩ else cs k from rfl)
      generalize I k = x at *
      obtain ⟨q, p, s⟩ := x
      simp only at *
      generalize bg ⟨q, p, s⟩ t = g at *
      go_upto_region 3 with fail
      generalize hW0 : wr.alloc (.cells #[.int .i64 (q : Nat), .int .i64 (p : Nat), .int .i64 (s : Nat)] 65) = W0
      obtain ⟨hb0, hs0, o0, o1, o2⟩ := new3 wr q p s _ _ hW0.symm
      clear hW0 c0 c1 c2
      have HK0 := Lib.hid (HK.out.trans (Keeps.of_below hb0))
      have HO1 := Lib.hid (own_under HO.out hb0)
      clear hb0
      generalize wr.heap.size = X at *
      go_wp2_with fail
      refine (HBK.out _).mono ?_
      rintro e w2 ⟨rfl, hb2⟩
      have HK2 := Lib.hid (HK0.out.trans (Keeps.of_below hb2))
      have HO2 := Lib.hid (own_under HO1.out hb2)
      have q0 : w2.cell? ⟨X, 0, none⟩ = some (.int .i64 (q : Nat)) := (hb2.cell (p := ⟨X, 0, none⟩) hs0).trans o0
      have q1 : w2.cell? ⟨X, 1, none⟩ = some (.int .i64 (p : Nat)) := (hb2.cell (p := ⟨X, 1, none⟩) hs0).trans o1
      clear hb2 o0 o1 o2
      by_cases hbt : Begins ⟨q, p, s⟩ t
      · have hgt : g = t := HBE.out.2 hbt
        subst hgt
        have HF2 := Lib.hid (show filC I g cs k = ⟨k, q, (g + p : Nat)⟩ by rw [HF.out, if_pos hbt])
        have HN := Lib.hid (show TrisO ChT B (((w2.setCell ⟨G, k * 3, none⟩ (.int .i64 (k : Nat))).setCell ⟨G, k * 3 + 1, none⟩ (.int .i64 (q : Nat))).setCell ⟨G, k * 3 + 2, none⟩ (.int .i64 ((g : Int) + (p : Int)))) (.slice (some ⟨G, 0, none⟩) n n) n (upto (filC I g cs) cs (k + 1)) from by
          have h1 := (World.ownsRow.stored HO2.out (k * 3) (.int .i64 (k : Nat))).1
          have h2 := (World.ownsRow.stored h1 (k * 3 + 1) (.int .i64 (q : Nat))).1
          have h3 := (World.ownsRow.stored h2 (k * 3 + 2) (.int .i64 ((g : Int) + (p : Int)))).1
          have e := triL_set (upto (filC I g cs) cs k) n k ⟨k, q, (g : Int) + (p : Int)⟩
          simp only at e
          rw [e] at h3
          have e2 : triL (upd (upto (filC I g cs) cs k) k ⟨k, q, (g : Int) + (p : Int)⟩) n = triL (upto (filC I g cs) cs (k + 1)) n := triL_congr fun i _ => by
            unfold upd upto
            by_cases e : i = k
            · subst e; rw [if_pos rfl, if_pos (by omega), HF2.out]; simp
            · rw [if_neg e]
              by_cases h : i < k
              · rw [if_pos h, if_pos (by omega)]
              · rw [if_neg h, if_neg (by omega)]
          rw [e2] at h3
          exact h3)
        have HKN := Lib.hid (HK2.out.trans (keeps_set3 (W := w2) (G := G) (k * 3) (k * 3 + 1) (k * 3 + 2) (.int .i64 (k : Nat)) (.int .i64 (q : Nat)) (.int .i64 ((g : Int) + (p : Int)))))
        obtain ⟨t0, t1, t2⟩ := triL_at (upto (filC I g cs) cs k) hlt
        have g0 := (World.ownsRow.cellAt HO2.out (k * 3) (by omega)).trans t0
        have g1 := (World.ownsRow.cellAt HO2.out (k * 3 + 1) (by omega)).trans t1
        have g2 := (World.ownsRow.cellAt HO2.out (k * 3 + 2) (by omega)).trans t2
        have f0 := World.ownsRow.frozenAt HO2.out (k * 3)
        have f1 := World.ownsRow.frozenAt HO2.out (k * 3 + 1)
        have f2 := World.ownsRow.frozenAt HO2.out (k * 3 + 2)
        clear t0 t1 t2 hbt
        generalize (upto (filC I g cs) cs k k).a = y0 at *
        generalize (upto (filC I g cs) cs k k).b = y1 at *
        generalize (upto (filC I g cs) cs k k).c = y2 at *
        go_wp2_with fail
        go_roundw
        case rel => exact ⟨k + 1, by omega, by go_num, HN, HKN⟩
        case measure => simp [intOf]; omega
      · have hgt : ((g : Int) == (t : Int)) = false := by rw [beq_eq_false_iff_ne]; intro e; exact hbt (HBE.out.1 (by omega))
        have HN := Lib.hid (show TrisO ChT B w2 (.slice (some ⟨G, 0, none⟩) n n) n (upto (filC I t cs) cs (k + 1)) from by
          have e2 : triL (upto (filC I t cs) cs (k + 1)) n = triL (upto (filC I t cs) cs k) n := triL_congr fun i _ => by
            unfold upto
            by_cases e : i = k
            · subst e; rw [if_pos (by omega), if_neg (by omega), HF.out, if_neg hbt]
            · by_cases h : i < k
              · rw [if_pos h, if_pos (by omega)]
              · rw [if_neg h, if_neg (by omega)]
          rw [TrisO, e2]; exact HO2.out)
        clear hbt
        go_wp2_with fail
        go_roundw
        case rel => exact ⟨k + 1, by omega, by go_num, HN, HK2⟩
        case measure => simp [intOf]; omega
    · have hge : decide (k < n) = false := decide_eq_false hlt
      obtain rfl : k = n := by omega
      clear hlt
      have HN := Lib.hid (show TrisO ChT B wr (.slice (some ⟨G, 0, none⟩) k k) k (filC I t cs) from by
        have e2 : triL (upto (filC I t cs) cs k) k = triL (filC I t cs) k := triL_congr fun i h => by unfold upto; rw [if_pos h]
        have := HO.out
        rw [TrisO, e2] at this; exact this)
      go_wp2_with fail
      go_end0
      exact ⟨rfl, HN.out, HK.out⟩
end Go.Proofs.Ytfahpjilgdlhiaa
