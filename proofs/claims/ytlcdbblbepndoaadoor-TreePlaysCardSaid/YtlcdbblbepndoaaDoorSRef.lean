/- The document's own table of slots, function by function: Kind, Make, Free, Find; no condition but those that each row names. -/
import Derived.Test.YtlcdbblbepndoaaDoorProg
import Derived.Test.YtlcdbblbepndoaaDoorSLoad
import Derived.Test.YtlcdbblbepndoaaDoorSMem
import Derived.WalkSpells
import Derived.WalkLawsBesides
import Derived.Deep.QuietTactic
import Derived.BigQuiet
import Derived.Deep.LoopGhost
namespace Go.Proofs.YtlcdbblbepndoaaDoor
open Go.RowKit

/-- The document's table as it lies in memory. -/
structure RT (S : Nat → Prop) (w : World) (A : Tab) (gs ts ls : Value) : Prop where
  g : Lst S w gs (ints A.gens)
  t : Lst S w ts (bools A.taken)
  l : Lst S w ls (ints A.list)
theorem RT.keeps {S : Nat → Prop} {w w' : World} {A : Tab} {gs ts ls : Value} (h : RT S w A gs ts ls) (hk : Keeps S w w') : RT S w' A gs ts ls := ⟨h.g.keeps hk, h.t.keeps hk, h.l.keeps hk⟩
theorem RT.below {S : Nat → Prop} {w w' : World} {A : Tab} {gs ts ls : Value} (h : RT S w A gs ts ls) (hb : Below w.heap.size w w') : RT S w' A gs ts ls := h.keeps (Keeps.of_below hb)
abbrev rv (k : Int) (gs ts ls : Value) : Value := .agg #[.int .i64 k, gs, ts, ls]

theorem rkind_yes (k : Int) (w : World) (h1 : 1 ≤ k) (h3 : k ≤ 3) : Calls Tryd.prog 43 #[.int .i64 k] w fun e w' => e = .returned (.bool true) ∧ w = w' := by
  go_enter Tryd.func43, Tryd.ntmps43
  go_wp2_with fail
  go_ret
  exact ⟨rfl, rfl⟩
theorem rkind_no (k : Int) (w : World) (h : ¬ (1 ≤ k ∧ k ≤ 3)) : Calls Tryd.prog 43 #[.int .i64 k] w fun e w' => e = .returned (.bool false) ∧ w = w' := by
  by_cases h1 : k < 1
  · clear h
    go_enter Tryd.func43, Tryd.ntmps43
    go_wp2_with fail
    go_ret
    exact ⟨rfl, rfl⟩
  · have h3 : 3 < k := by omega
    clear h
    go_enter Tryd.func43, Tryd.ntmps43
    go_wp2_with fail
    go_ret
    exact ⟨ret_bool (decide_eq_false (by omega)), rfl⟩

theorem rmk_ok (k s g : Int) (w : World) (h : okP k s g) : Calls Tryd.prog 46 #[.int .i64 k, .int .i64 s, .int .i64 g] w fun e w' => e = .returned (.int .i64 (mkH k s g)) ∧ w = w' := by
  obtain ⟨h1, h2, h3, h4, h5, h6⟩ := id h
  go_enter Tryd.func46, Tryd.ntmps46
  go_wp2_with fail
  go_ret
  exact ⟨ret_int (by rw [or_k k s (by omega) h2 h3 h4, or_s k s g (by omega) h2 h3 h4 (by omega) h6]), rfl⟩

/-- A slot's number, -1 where there is none. -/
def optV (o : Option Nat) : Int := match o with
  | none => -1
  | some i => i

set_option maxHeartbeats 1000000 in
set_option maxRecDepth 100000 in
theorem rfree_any (S : Nat → Prop) (A : Tab) (hA : A.Good) (gs ts ls : Value) (w : World) (h : RT S w A gs ts ls) :
    Calls Tryd.prog 44 #[rv A.kind gs ts ls] w fun e w' => e = .returned (.int .i64 (optV A.free)) ∧ Below w.heap.size w w' := by
  obtain ⟨⟨p, cp, rfl, hm, hg⟩, ⟨q, cq, rfl, _, ht⟩, _⟩ := h
  have e1 := ints_len A.gens
  have e2 := bools_len A.taken
  have n4 := hA.n4
  have hlt := hA.lt
  rw [e1] at hm ⊢
  rw [e2, hlt]
  have HG := Lib.hid hg
  have HT := Lib.hid ht
  have HLT := Lib.hid hlt
  clear hg ht e1 e2 hlt
  have hb0 : ∀ o, Below w.heap.size w (w.alloc o) := fun o => (Below.refl _ _).alloc (Nat.le_refl _) o
  go_enter Tryd.func44, Tryd.ntmps44
  go_wp2_with fail
  go_loop [3] (fun i => ∃ k : Nat, k ≤ A.gens.length ∧ i = .int .i64 k ∧ Hid (∀ j, j < k → A.fr j = false)) (fun i => A.gens.length - (intOf i).toNat)
  case atStart => exact ⟨0, Nat.zero_le _, rfl, Lib.hid (fun j hj => by omega)⟩
  case round =>
    obtain ⟨k, hk, rfl, HF⟩ := hrel
    by_cases hlt : k < A.gens.length
    · obtain ⟨b, off, rfl, _, hc1⟩ := HT.out k _ (bools_at (by rw [HLT.out]; exact hlt))
      obtain ⟨b2, off2, rfl, _, hc2⟩ := HG.out k _ (ints_at hlt)
      have hb1 := cell_lt hc1
      have hb2 := cell_lt hc2
      simp only at hb1 hb2
      by_cases hf : A.fr k = true
      · have HR := Lib.hid (firstIn_some (p := A.fr) (n := A.n) HF.out hlt hf)
        unfold Tab.fr at hf
        simp only [Bool.and_eq_true, Bool.not_eq_true', decide_eq_true_eq] at hf
        obtain ⟨f1, f2⟩ := hf
        unfold Tab.t at f1
        unfold Tab.g at f2
        rw [f1] at hc1
        generalize A.gens.getD k 0 = g at *
        clear f1
        go_wp2_with fail
        go_ret
        exact ⟨ret_int (by unfold Tab.free; rw [HR.out]; rfl), hb0 _⟩
      · have HF' := Lib.hid (show ∀ j, j < k + 1 → A.fr j = false from fun j hj => by
          by_cases h : j < k
          · exact HF.out j h
          · obtain rfl : j = k := by omega
            simpa using hf)
        unfold Tab.fr at hf
        unfold Tab.t Tab.g at hf
        generalize A.gens.getD k 0 = g at *
        generalize A.taken.getD k false = tk at *
        cases tk with
        | true =>
          clear hf
          go_wp2_with fail
          go_round
          case rel => exact ⟨k + 1, by omega, by go_num, HF'⟩
          case measure => simp [intOf]; omega
        | false =>
          have f2 : 1023 < g := by simp at hf; omega
          clear hf
          go_wp2_with fail
          go_round
          case rel => exact ⟨k + 1, by omega, by go_num, HF'⟩
          case measure => simp [intOf]; omega
    · have HR := Lib.hid (firstIn_none (p := A.fr) (n := A.n) (fun j hj => HF.out j (by unfold Tab.n at hj; omega)))
      go_wp2_with fail
      go_ret
      exact ⟨ret_int (by unfold Tab.free; rw [HR.out]; rfl), hb0 _⟩

set_option maxHeartbeats 1000000 in
set_option maxRecDepth 100000 in
theorem rfind_any (S : Nat → Prop) (A : Tab) (hA : A.Good) (x : Int) (gs ts ls : Value) (w : World) (h : RT S w A gs ts ls) :
    Calls Tryd.prog 55 #[rv A.kind gs ts ls, .int .i64 x] w fun e w' => e = .returned (.int .i64 (optV (A.find x))) ∧ Below w.heap.size w w' := by
  obtain ⟨⟨p, cp, rfl, hm, hg⟩, ⟨q, cq, rfl, _, ht⟩, _⟩ := h
  have e1 := ints_len A.gens
  have e2 := bools_len A.taken
  have n4 := hA.n4
  have hlt := hA.lt
  rw [e1] at hm ⊢
  rw [e2, hlt]
  have HG := Lib.hid hg
  have HT := Lib.hid ht
  have HLT := Lib.hid hlt
  have HA := Lib.hid hA
  clear hg ht e1 e2 hlt hA
  have hb0 : ∀ o, Below w.heap.size w (w.alloc o) := fun o => (Below.refl _ _).alloc (Nat.le_refl _) o
  go_enter Tryd.func55, Tryd.ntmps55
  go_wp2_with fail
  go_loopw [5] (fun i wr => ∃ k : Nat, k ≤ A.gens.length ∧ i = .int .i64 k ∧ Hid (∀ j, j < k → A.is x j = false) ∧ Below w.heap.size w wr ∧
      wr.cell? ⟨w.heap.size, 0, none⟩ = some (.int .i64 A.kind) ∧ wr.cell? ⟨w.heap.size, 1, none⟩ = some (.slice p A.gens.length cp) ∧ wr.cell? ⟨w.heap.size, 2, none⟩ = some (.slice q A.gens.length cq)) (fun i _ => A.gens.length - (intOf i).toNat)
  case atStart => exact ⟨0, Nat.zero_le _, rfl, Lib.hid (fun j hj => by omega), hb0 _, by simp, by simp, by simp⟩
  case round =>
    obtain ⟨k, hk, rfl, HF, hb, c0, c1, c2⟩ := hrel
    by_cases hlt : k < A.gens.length
    · obtain ⟨b, off, rfl, _, hd1⟩ := HT.out k _ (bools_at (by rw [HLT.out]; exact hlt))
      obtain ⟨b2, off2, rfl, _, hd2⟩ := HG.out k _ (ints_at hlt)
      have hc1 : wr.cell? ⟨b, off + k, none⟩ = _ := (hb.cell (p := ⟨b, off + k, none⟩) (cell_lt hd1)).trans hd1
      have hc2 : wr.cell? ⟨b2, off2 + k, none⟩ = _ := (hb.cell (p := ⟨b2, off2 + k, none⟩) (cell_lt hd2)).trans hd2
      clear hd1 hd2
      have k0 : (0 : Int) ≤ (k : Int) := by omega
      have k1 : (k : Int) < (A.gens.length : Int) := by omega
      by_cases htk : A.taken.getD k false = true
      · have hp : okP A.kind k (A.gens.getD k 0) := ⟨HA.out.k1, HA.out.k3, by omega, by omega, (HA.out.g1 k hlt).1, HA.out.gt k hlt htk⟩
        have HM := Lib.hid (fun w => rmk_ok A.kind k (A.gens.getD k 0) w hp)
        have hhd : A.hd k = mkH A.kind k (A.gens.getD k 0) := rfl
        rw [← hhd] at HM
        rw [htk] at hc1
        by_cases hf : A.hd k = x
        · have HR := Lib.hid (firstIn_some (p := A.is x) (n := A.n) HF.out hlt (by unfold Tab.is; rw [show A.t k = true from htk]; simp [hf]))
          have hq : (A.hd k == x) = true := by rw [beq_iff_eq]; exact hf
          generalize A.gens.getD k 0 = g at *
          clear hp hhd htk hf
          generalize A.hd k = y at *
          go_wp2_with fail
          go_quiet ((go_at_call 46; exact Calls.quiet_of_same ((HM.out _).mono fun _ _ h => ⟨h.1, h.2.symm⟩)))
          go_wp2_with fail
          go_ret
          exact ⟨ret_int (by unfold Tab.find; rw [HR.out]; rfl), below_drewN hb _⟩
        · have HF' := Lib.hid (show ∀ j, j < k + 1 → A.is x j = false from fun j hj => by
            by_cases h : j < k
            · exact HF.out j h
            · obtain rfl : j = k := by omega
              unfold Tab.is; simp [hf])
          have hq : (A.hd k == x) = false := by rw [beq_eq_false_iff_ne]; exact hf
          generalize A.gens.getD k 0 = g at *
          clear hp hhd htk hf
          generalize A.hd k = y at *
          go_wp2_with fail
          go_quiet ((go_at_call 46; exact Calls.quiet_of_same ((HM.out _).mono fun _ _ h => ⟨h.1, h.2.symm⟩)))
          go_wp2_with fail
          go_roundw
          case rel => exact ⟨k + 1, by omega, by go_num, HF', below_drewN hb _, c0, c1, c2⟩
          case measure => simp [intOf]; omega
      · have htf : A.taken.getD k false = false := by simpa using htk
        have HF' := Lib.hid (show ∀ j, j < k + 1 → A.is x j = false from fun j hj => by
          by_cases h : j < k
          · exact HF.out j h
          · obtain rfl : j = k := by omega
            unfold Tab.is; rw [show A.t j = false from htf]; rfl)
        rw [htf] at hc1
        clear htk htf
        generalize A.gens.getD k 0 = g at *
        go_wp2_with fail
        go_quiet (fail)
        go_wp2_with fail
        go_roundw
        case rel => exact ⟨k + 1, by omega, by go_num, HF', below_drewN hb _, c0, c1, c2⟩
        case measure => simp [intOf]; omega
    · have HR := Lib.hid (firstIn_none (p := A.is x) (n := A.n) (fun j hj => HF.out j (by unfold Tab.n at hj; omega)))
      go_wp2_with fail
      go_ret
      exact ⟨ret_int (by unfold Tab.find; rw [HR.out]; rfl), hb⟩
end Go.Proofs.YtlcdbblbepndoaaDoor
