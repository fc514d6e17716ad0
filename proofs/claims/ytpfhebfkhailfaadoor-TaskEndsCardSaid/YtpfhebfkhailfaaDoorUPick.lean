/- The program's task: Pick; no condition but those that each row names. -/
import Derived.Test.YtpfhebfkhailfaaDoorUVal
import Derived.Test.YtpfhebfkhailfaaDoorQPick
import Derived.Deep.Quiet
import Derived.Deep.QuietTactic
namespace Go.Proofs.YtpfhebfkhailfaaDoor
open Go.RowKit Tsk

theorem ite_yes {c : Bool} {a b : Prop} (h : c = true) (ha : a) : if c = true then a else b := by rw [if_pos h]; exact ha
theorem ite_no {c : Bool} {a b : Prop} (h : c = false) (hb : b) : if c = true then a else b := by rw [h]; exact hb
/-- A region that draws its order, whose operations read and whose calls leave a world of the class C: one walk in the order of the text. -/
theorem region_class {P : Program} {id : Nat} {Q : Exit → Act → World → Prop} {a : Act} {w : World} {l : List Oper} (C : World → Prop) (hm : P.follows .mixedOrders = true) (hB : Region.lexB .any l.toArray = true) (hC : C { w with drawn := w.drawn + 1 })
    (h : wpQuiet P l.toArray C (fun a' => ∀ w', C w' → Q .normal a' w') l a) : (Code.region id l.toArray true).wp P Q a w :=
  wp_region_quiet hm hB hC (by simpa using h)
set_option maxHeartbeats 4000000 in
set_option maxRecDepth 100000 in
theorem ppick (v : Value) (m : Nat) (T : Nat → Tk) (w : World) (h : Tasks w v m T) : Calls Tryd.prog 28 #[v] w fun e w' => e = .returned (.int .i64 (pickS T m)) ∧ Below w.heap.size w w' := by
  have HT := Lib.hid h
  obtain ⟨q, cap, rfl, hn, _⟩ := h
  go_enter Tryd.func28, Tryd.ntmps28
  go_wp2_with fail
  go_loopw [3, 8] (fun fv iv wr => ∃ i : Nat, iv = .int .i64 i ∧ i ≤ m ∧ fv = .int .i64 (pickS T i) ∧ Hid (Below w.heap.size w wr)) (fun _ iv _ => m - (intOf iv).toNat)
  case atStart => exact ⟨0, rfl, Nat.zero_le _, rfl, Lib.hid (Below.refl _ _)⟩
  case round =>
    obtain ⟨i, rfl, hi, rfl, HB⟩ := hrel
    by_cases him : i < m
    · have him' : (i : Int) < (m : Int) := by omega
      obtain ⟨q', cap', e, _, hc⟩ := HT.out.below HB.out
      cases e
      obtain ⟨b, off, rfl, c0, c1, c2, c3, c4, c5, c6, c7, hJ⟩ := hc i him
      obtain ⟨s1, cp1, hs1, _⟩ := hJ
      rw [hs1] at c1
      have HR := Lib.hid (pready (T i).p s1 (T i).n cp1 (T i).k)
      have HS := Lib.hid (show pickS T (i + 1) = if 0 < (T i).n ∧ (pickS T i < 0 ∨ (T i).p < (T (pickS T i).toNat).p) then ((i : Nat) : Int) else pickS T i from rfl)
      obtain ⟨hp1, hp2⟩ := pickS_le T i
      have hp3 := him'
      have hpb := Lib.hid (fun (g : Nat) (hg : g < m) => hc g hg)
      obtain ⟨t, hti⟩ : ∃ t, t = T i := ⟨_, rfl⟩
      rw [← hti] at c0 c1 c2 c3 c4 c5 c6 c7 HR HS
      have HTI := Lib.hid hti
      clear hti hc hs1
      obtain ⟨tp, ts, tn, tf, ⟨kg, ko, kn, kd, kc, kt⟩⟩ := t
      dsimp only at c0 c1 c2 c3 c4 c5 c6 c7 HR HS
      have hbl : b < wr.heap.size := cell_lt c0
      obtain ⟨WA, hWA⟩ : ∃ WA, WA = wr.alloc (.cells #[.int .i64 tp, .slice s1 tn cp1, .int .i64 kg, .int .i64 ko, .int .i64 kn, .int .i64 kd, .int .i64 kc, .int .i64 kt] KT) := ⟨_, rfl⟩
      have HTA := Lib.hid (show HasT WA wr.heap.size tp (.slice s1 tn cp1) ⟨kg, ko, kn, kd, kc, kt⟩ from by rw [hWA]; exact has_new wr _ _ rfl)
      have HBA := Lib.hid (show Below wr.heap.size wr WA from by rw [hWA]; exact (Below.refl _ _).alloc (Nat.le_refl _) _)
      have HW := Lib.hid hWA
      clear hWA
      go_upto_region 5 with fail
      rw [← HW.out]
      obtain ⟨C, hCd⟩ : ∃ C : World → Prop, C = fun W' => Below WA.heap.size WA W' := ⟨_, rfl⟩
      refine region_class C (by kernel_rfl) (by kernel_rfl) (by rw [hCd]; exact below_drewOne) ?_
      have HC := Lib.hid (show ∀ W, C W → HasT W wr.heap.size tp (.slice s1 tn cp1) ⟨kg, ko, kn, kd, kc, kt⟩ ∧ Below wr.heap.size wr W from fun W hW => by rw [hCd] at hW; exact ⟨HTA.out.below hW, bnext HBA.out hW⟩)
      have HCn := Lib.hid (show ∀ W W', C W → Below W.heap.size W W' → C W' from fun W W' hW hb => by rw [hCd] at hW ⊢; exact bnext hW hb)
      clear hCd
      by_cases h0 : 0 < tn
      · rw [decide_eq_true h0] at HR
        by_cases h1 : pickS T i < 0
        · have HS := Lib.hid (HS.out.trans (if_pos ⟨h0, .inl h1⟩))
          have hfv : pickS T i = -1 := by omega
          rw [hfv] at *
          clear h1 hfv hp1 hp2 hp3
          with_reducible refine wpQuiet_step ?_
          intro K hK
          go_simp
          first
            | refine hK _ ?_
            | (apply Exists.intro
               refine ⟨fun W hW => ?_, hK _ ?_⟩
               focus
                 obtain ⟨ht, hb0⟩ := HC.out W hW
                 obtain ⟨x0, x1, x2, x3, x4, x5, x6, x7⟩ := ht.cells
                 clear ht hb0
                 go_simp
                 rfl)
          clear hK K
          with_reducible refine wpQuiet_step ?_
          intro K hK
          go_simp
          apply Exists.intro
          refine ⟨fun W hW => ?_, hK _ ?_⟩
          focus
            refine (HR.out W).mono ?_
            rintro e w3 ⟨rfl, hb⟩
            exact ⟨rfl, HCn.out _ _ hW hb⟩
          clear hK K
          with_reducible refine wpQuiet_step ?_
          intro K hK
          go_simp
          first
            | refine hK _ ?_
            | refine ⟨_, fun _ _ => rfl, hK _ ?_⟩
          clear hK K
          with_reducible refine wpQuiet_step ?_
          intro K hK
          go_simp
          first
            | refine hK _ ?_
            | refine ⟨_, fun _ _ => rfl, hK _ ?_⟩
          clear hK K
          with_reducible refine wpQuiet_step ?_
          intro K hK
          go_simp
          first
            | refine hK _ ?_
            | refine ⟨_, fun _ _ => rfl, hK _ ?_⟩
          clear hK K
          with_reducible refine wpQuiet_step ?_
          intro K hK
          go_simp
          first
            | refine hK _ ?_
            | refine ⟨_, fun _ _ => rfl, hK _ ?_⟩
          clear hK K
          with_reducible refine wpQuiet_step ?_
          intro K hK
          go_simp
          first
            | refine hK _ ?_
            | refine ⟨_, fun _ _ => rfl, hK _ ?_⟩
          clear hK K
          with_reducible refine wpQuiet_step ?_
          intro K hK
          go_simp
          first
            | refine hK _ ?_
            | (apply Exists.intro
               refine ⟨fun W hW => ?_, hK _ ?_⟩
               focus
                 obtain ⟨ht, hb0⟩ := HC.out W hW
                 obtain ⟨x0, x1, x2, x3, x4, x5, x6, x7⟩ := ht.cells
                 clear ht hb0
                 go_simp
                 rfl)
          clear hK K
          with_reducible refine wpQuiet_step ?_
          intro K hK
          go_simp
          first
            | refine hK _ ?_
            | refine ⟨_, fun _ _ => rfl, hK _ ?_⟩
          clear hK K
          with_reducible refine wpQuiet_step ?_
          intro K hK
          go_simp
          first
            | refine hK _ ?_
            | refine ⟨_, fun _ _ => rfl, hK _ ?_⟩
          clear hK K
          with_reducible refine wpQuiet_step ?_
          intro K hK
          go_simp
          first
            | refine hK _ ?_
            | refine ⟨_, fun _ _ => rfl, hK _ ?_⟩
          clear hK K
          with_reducible refine wpQuiet_step ?_
          intro K hK
          go_simp
          first
            | refine hK _ ?_
            | refine ⟨_, fun _ _ => rfl, hK _ ?_⟩
          clear hK K
          with_reducible refine wpQuiet_step ?_
          intro K hK
          go_simp
          first
            | refine hK _ ?_
            | (apply Exists.intro
               refine ⟨fun W hW => ?_, hK _ ?_⟩
               focus
                 obtain ⟨ht, hb0⟩ := HC.out W hW
                 clear ht hb0
                 go_simp
                 rfl)
          clear hK K
          with_reducible refine wpQuiet_step ?_
          intro K hK
          go_simp
          first
            | refine hK _ ?_
            | refine ⟨_, fun _ _ => rfl, hK _ ?_⟩
          clear hK K
          with_reducible refine wpQuiet_step ?_
          intro K hK
          go_simp
          first
            | refine hK _ ?_
            | refine ⟨_, fun _ _ => rfl, hK _ ?_⟩
          clear hK K
          with_reducible refine wpQuiet_step ?_
          intro K hK
          go_simp
          first
            | refine hK _ ?_
            | refine ⟨_, fun _ _ => rfl, hK _ ?_⟩
          clear hK K
          with_reducible refine wpQuiet_nil ?_
          intro W hW
          have HB3 := Lib.hid (bnext HB.out (HC.out W hW).2)
          go_wp2_with fail
          go_roundw
          case rel => exact ⟨i + 1, by go_num, by omega, by rw [HS.out], HB3⟩
          case measure => simp [intOf]; omega
        · obtain ⟨g, hg⟩ : ∃ g : Nat, pickS T i = (g : Int) := ⟨(pickS T i).toNat, by omega⟩
          have hgm : g < m := by omega
          obtain ⟨b', off', e, hg0, _⟩ := hpb.out g hgm
          cases e
          rw [hg, Int.toNat_natCast] at HS
          rw [hg] at *
          have hgi : (0 : Int) ≤ (g : Int) := by omega
          have hgj : (g : Int) < (m : Int) := by omega
          have hne : ((g : Int) == -1) = false := by simp
          have hlt0 : decide ((g : Int) < 0) = false := decide_eq_false (by omega)
          clear h1 hp1 hp2 hp3
          obtain ⟨tg, htg⟩ : ∃ tg, tg = (T g).p := ⟨_, rfl⟩
          rw [← htg] at hg0 HS
          clear htg hg
          by_cases h2 : tp < tg
          · have HS := Lib.hid (HS.out.trans (if_pos ⟨h0, .inr h2⟩))
            with_reducible refine wpQuiet_step ?_
            intro K hK
            go_simp
            first
              | refine hK _ ?_
              | (apply Exists.intro
                 refine ⟨fun W hW => ?_, hK _ ?_⟩
                 focus
                   obtain ⟨ht, hb0⟩ := HC.out W hW
                   obtain ⟨x0, x1, x2, x3, x4, x5, x6, x7⟩ := ht.cells
                   clear ht hb0
                   go_simp
                   rfl)
            clear hK K
            with_reducible refine wpQuiet_step ?_
            intro K hK
            go_simp
            apply Exists.intro
            refine ⟨fun W hW => ?_, hK _ ?_⟩
            focus
              refine (HR.out W).mono ?_
              rintro e w3 ⟨rfl, hb⟩
              exact ⟨rfl, HCn.out _ _ hW hb⟩
            clear hK K
            with_reducible refine wpQuiet_step ?_
            intro K hK
            go_simp
            first
              | refine hK _ ?_
              | refine ⟨_, fun _ _ => rfl, hK _ ?_⟩
            clear hK K
            with_reducible refine wpQuiet_step ?_
            intro K hK
            go_simp
            first
              | refine hK _ ?_
              | refine ⟨_, fun _ _ => rfl, hK _ ?_⟩
            clear hK K
            with_reducible refine wpQuiet_step ?_
            intro K hK
            go_simp
            first
              | refine hK _ ?_
              | refine ⟨_, fun _ _ => rfl, hK _ ?_⟩
            clear hK K
            with_reducible refine wpQuiet_step ?_
            intro K hK
            go_simp
            first
              | refine hK _ ?_
              | refine ⟨_, fun _ _ => rfl, hK _ ?_⟩
            clear hK K
            with_reducible refine wpQuiet_step ?_
            intro K hK
            go_simp
            first
              | refine hK _ ?_
              | refine ⟨_, fun _ _ => rfl, hK _ ?_⟩
            clear hK K
            with_reducible refine wpQuiet_step ?_
            intro K hK
            go_simp
            first
              | refine hK _ ?_
              | (apply Exists.intro
                 refine ⟨fun W hW => ?_, hK _ ?_⟩
                 focus
                   obtain ⟨ht, hb0⟩ := HC.out W hW
                   obtain ⟨x0, x1, x2, x3, x4, x5, x6, x7⟩ := ht.cells
                   clear ht hb0
                   go_simp
                   rfl)
            clear hK K
            with_reducible refine wpQuiet_step ?_
            intro K hK
            go_simp
            first
              | refine hK _ ?_
              | refine ⟨_, fun _ _ => rfl, hK _ ?_⟩
            clear hK K
            with_reducible refine wpQuiet_step ?_
            intro K hK
            go_simp
            first
              | refine hK _ ?_
              | refine ⟨_, fun _ _ => rfl, hK _ ?_⟩
            clear hK K
            with_reducible refine wpQuiet_step ?_
            intro K hK
            go_simp
            first
              | refine hK _ ?_
              | refine ⟨_, fun _ _ => rfl, hK _ ?_⟩
            clear hK K
            with_reducible refine wpQuiet_step ?_
            intro K hK
            go_simp
            first
              | refine hK _ ?_
              | refine ⟨_, fun _ _ => rfl, hK _ ?_⟩
            clear hK K
            with_reducible refine wpQuiet_step ?_
            intro K hK
            go_simp
            first
              | refine hK _ ?_
              | (apply Exists.intro
                 refine ⟨fun W hW => ?_, hK _ ?_⟩
                 focus
                   obtain ⟨ht, hb0⟩ := HC.out W hW
                   have cg := (hb0.cell (p := ⟨b, off + g * 8, none⟩) hbl).trans hg0
                   clear ht hb0
                   go_simp
                   rfl)
            clear hK K
            with_reducible refine wpQuiet_step ?_
            intro K hK
            go_simp
            first
              | refine hK _ ?_
              | refine ⟨_, fun _ _ => rfl, hK _ ?_⟩
            clear hK K
            with_reducible refine wpQuiet_step ?_
            intro K hK
            go_simp
            first
              | refine hK _ ?_
              | refine ⟨_, fun _ _ => rfl, hK _ ?_⟩
            clear hK K
            with_reducible refine wpQuiet_step ?_
            intro K hK
            go_simp
            first
              | refine hK _ ?_
              | refine ⟨_, fun _ _ => rfl, hK _ ?_⟩
            clear hK K
            with_reducible refine wpQuiet_nil ?_
            intro W hW
            have HB3 := Lib.hid (bnext HB.out (HC.out W hW).2)
            go_wp2_with fail
            go_roundw
            case rel => exact ⟨i + 1, by go_num, by omega, by rw [HS.out], HB3⟩
            case measure => simp [intOf]; omega
          · have HS := Lib.hid (HS.out.trans (if_neg (fun h => h.2.elim (fun h => by omega) h2)))
            have h2b : decide (tp < tg) = false := decide_eq_false h2
            with_reducible refine wpQuiet_step ?_
            intro K hK
            go_simp
            first
              | refine hK _ ?_
              | (apply Exists.intro
                 refine ⟨fun W hW => ?_, hK _ ?_⟩
                 focus
                   obtain ⟨ht, hb0⟩ := HC.out W hW
                   obtain ⟨x0, x1, x2, x3, x4, x5, x6, x7⟩ := ht.cells
                   clear ht hb0
                   go_simp
                   rfl)
            clear hK K
            with_reducible refine wpQuiet_step ?_
            intro K hK
            go_simp
            apply Exists.intro
            refine ⟨fun W hW => ?_, hK _ ?_⟩
            focus
              refine (HR.out W).mono ?_
              rintro e w3 ⟨rfl, hb⟩
              exact ⟨rfl, HCn.out _ _ hW hb⟩
            clear hK K
            with_reducible refine wpQuiet_step ?_
            intro K hK
            go_simp
            first
              | refine hK _ ?_
              | refine ⟨_, fun _ _ => rfl, hK _ ?_⟩
            clear hK K
            with_reducible refine wpQuiet_step ?_
            intro K hK
            go_simp
            first
              | refine hK _ ?_
              | refine ⟨_, fun _ _ => rfl, hK _ ?_⟩
            clear hK K
            with_reducible refine wpQuiet_step ?_
            intro K hK
            go_simp
            first
              | refine hK _ ?_
              | refine ⟨_, fun _ _ => rfl, hK _ ?_⟩
            clear hK K
            with_reducible refine wpQuiet_step ?_
            intro K hK
            go_simp
            first
              | refine hK _ ?_
              | refine ⟨_, fun _ _ => rfl, hK _ ?_⟩
            clear hK K
            with_reducible refine wpQuiet_step ?_
            intro K hK
            go_simp
            first
              | refine hK _ ?_
              | refine ⟨_, fun _ _ => rfl, hK _ ?_⟩
            clear hK K
            with_reducible refine wpQuiet_step ?_
            intro K hK
            go_simp
            first
              | refine hK _ ?_
              | (apply Exists.intro
                 refine ⟨fun W hW => ?_, hK _ ?_⟩
                 focus
                   obtain ⟨ht, hb0⟩ := HC.out W hW
                   obtain ⟨x0, x1, x2, x3, x4, x5, x6, x7⟩ := ht.cells
                   clear ht hb0
                   go_simp
                   rfl)
            clear hK K
            with_reducible refine wpQuiet_step ?_
            intro K hK
            go_simp
            first
              | refine hK _ ?_
              | refine ⟨_, fun _ _ => rfl, hK _ ?_⟩
            clear hK K
            with_reducible refine wpQuiet_step ?_
            intro K hK
            go_simp
            first
              | refine hK _ ?_
              | refine ⟨_, fun _ _ => rfl, hK _ ?_⟩
            clear hK K
            with_reducible refine wpQuiet_step ?_
            intro K hK
            go_simp
            first
              | refine hK _ ?_
              | refine ⟨_, fun _ _ => rfl, hK _ ?_⟩
            clear hK K
            with_reducible refine wpQuiet_step ?_
            intro K hK
            go_simp
            first
              | refine hK _ ?_
              | refine ⟨_, fun _ _ => rfl, hK _ ?_⟩
            clear hK K
            with_reducible refine wpQuiet_step ?_
            intro K hK
            go_simp
            first
              | refine hK _ ?_
              | (apply Exists.intro
                 refine ⟨fun W hW => ?_, hK _ ?_⟩
                 focus
                   obtain ⟨ht, hb0⟩ := HC.out W hW
                   have cg := (hb0.cell (p := ⟨b, off + g * 8, none⟩) hbl).trans hg0
                   clear ht hb0
                   go_simp
                   rfl)
            clear hK K
            with_reducible refine wpQuiet_step ?_
            intro K hK
            go_simp
            first
              | refine hK _ ?_
              | refine ⟨_, fun _ _ => rfl, hK _ ?_⟩
            clear hK K
            with_reducible refine wpQuiet_step ?_
            intro K hK
            go_simp
            first
              | refine hK _ ?_
              | refine ⟨_, fun _ _ => rfl, hK _ ?_⟩
            clear hK K
            with_reducible refine wpQuiet_step ?_
            intro K hK
            go_simp
            first
              | refine hK _ ?_
              | refine ⟨_, fun _ _ => rfl, hK _ ?_⟩
            clear hK K
            with_reducible refine wpQuiet_nil ?_
            intro W hW
            have HB3 := Lib.hid (bnext HB.out (HC.out W hW).2)
            go_wp2_with fail
            go_roundw
            case rel => exact ⟨i + 1, by go_num, by omega, by rw [HS.out], HB3⟩
            case measure => simp [intOf]; omega
      · have HS := Lib.hid (HS.out.trans (if_neg (fun h => h0 h.1)))
        rw [decide_eq_false h0] at HR
        generalize pickS T i = fv at *
        with_reducible refine wpQuiet_step ?_
        intro K hK
        go_simp
        first
          | refine hK _ ?_
          | (apply Exists.intro
             refine ⟨fun W hW => ?_, hK _ ?_⟩
             focus
               obtain ⟨ht, hb0⟩ := HC.out W hW
               obtain ⟨x0, x1, x2, x3, x4, x5, x6, x7⟩ := ht.cells
               clear ht hb0
               go_simp
               rfl)
        clear hK K
        with_reducible refine wpQuiet_step ?_
        intro K hK
        go_simp
        apply Exists.intro
        refine ⟨fun W hW => ?_, hK _ ?_⟩
        focus
          refine (HR.out W).mono ?_
          rintro e w3 ⟨rfl, hb⟩
          exact ⟨rfl, HCn.out _ _ hW hb⟩
        clear hK K
        with_reducible refine wpQuiet_step ?_
        intro K hK
        go_simp
        first
          | refine hK _ ?_
          | refine ⟨_, fun _ _ => rfl, hK _ ?_⟩
        clear hK K
        with_reducible refine wpQuiet_step ?_
        intro K hK
        go_simp
        first
          | refine hK _ ?_
          | refine ⟨_, fun _ _ => rfl, hK _ ?_⟩
        clear hK K
        with_reducible refine wpQuiet_step ?_
        intro K hK
        go_simp
        first
          | refine hK _ ?_
          | refine ⟨_, fun _ _ => rfl, hK _ ?_⟩
        clear hK K
        with_reducible refine wpQuiet_step ?_
        intro K hK
        go_simp
        first
          | refine hK _ ?_
          | refine ⟨_, fun _ _ => rfl, hK _ ?_⟩
        clear hK K
        with_reducible refine wpQuiet_step ?_
        intro K hK
        go_simp
        first
          | refine hK _ ?_
          | refine ⟨_, fun _ _ => rfl, hK _ ?_⟩
        clear hK K
        with_reducible refine wpQuiet_step ?_
        intro K hK
        go_simp
        first
          | refine hK _ ?_
          | (apply Exists.intro
             refine ⟨fun W hW => ?_, hK _ ?_⟩
             focus
               obtain ⟨ht, hb0⟩ := HC.out W hW
               obtain ⟨x0, x1, x2, x3, x4, x5, x6, x7⟩ := ht.cells
               clear ht hb0
               go_simp
               rfl)
        clear hK K
        with_reducible refine wpQuiet_step ?_
        intro K hK
        go_simp
        first
          | refine hK _ ?_
          | refine ⟨_, fun _ _ => rfl, hK _ ?_⟩
        clear hK K
        with_reducible refine wpQuiet_step ?_
        intro K hK
        go_simp
        first
          | refine hK _ ?_
          | refine ⟨_, fun _ _ => rfl, hK _ ?_⟩
        clear hK K
        with_reducible refine wpQuiet_step ?_
        intro K hK
        go_simp
        first
          | refine hK _ ?_
          | refine ⟨_, fun _ _ => rfl, hK _ ?_⟩
        clear hK K
        with_reducible refine wpQuiet_step ?_
        intro K hK
        go_simp
        first
          | refine hK _ ?_
          | refine ⟨_, fun _ _ => rfl, hK _ ?_⟩
        clear hK K
        with_reducible refine wpQuiet_step ?_
        intro K hK
        go_simp
        first
          | refine hK _ ?_
          | (apply Exists.intro
             refine ⟨fun W hW => ?_, hK _ ?_⟩
             focus
               obtain ⟨ht, hb0⟩ := HC.out W hW
               clear ht hb0
               go_simp
               rfl)
        clear hK K
        with_reducible refine wpQuiet_step ?_
        intro K hK
        go_simp
        first
          | refine hK _ ?_
          | refine ⟨_, fun _ _ => rfl, hK _ ?_⟩
        clear hK K
        with_reducible refine wpQuiet_step ?_
        intro K hK
        go_simp
        first
          | refine hK _ ?_
          | refine ⟨_, fun _ _ => rfl, hK _ ?_⟩
        clear hK K
        with_reducible refine wpQuiet_step ?_
        intro K hK
        go_simp
        first
          | refine hK _ ?_
          | refine ⟨_, fun _ _ => rfl, hK _ ?_⟩
        clear hK K
        with_reducible refine wpQuiet_nil ?_
        intro W hW
        have HB3 := Lib.hid (bnext HB.out (HC.out W hW).2)
        go_wp2_with fail
        go_roundw
        case rel => exact ⟨i + 1, by go_num, by omega, by rw [HS.out], HB3⟩
        case measure => simp [intOf]; omega
    · have hg3 : decide (i < m) = false := decide_eq_false him
      obtain rfl : i = m := by omega
      clear him
      go_wp2_with fail
      go_ret
      exact ⟨rfl, HB.out⟩
end Go.Proofs.YtpfhebfkhailfaaDoor
