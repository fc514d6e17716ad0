/- The law's alike: both books are what the rules say; no condition but those that each row names. -/
import Derived.Test.YtdbfjcdglcagaaaDoorPStep
import Derived.Test.YtdbfjcdglcagaaaDoorPRefH
namespace Go.Proofs.YtdbfjcdglcagaaaDoor
open Go.RowKit Bk

set_option maxHeartbeats 2000000 in
set_option maxRecDepth 100000 in
theorem alike_any (w : World) (b mb : Nat) (v : Value) (L : List Ln) (h : Both w b mb v L) (h4 : L.length ≤ 1000) :
    Calls Tryd.prog 15 #[.pointer (some ⟨b, 0, none⟩), v] w fun e w' => e = .returned (.bool true) ∧ Below w.heap.size w w' := by
  have hl0 : 0 < L.length := by obtain ⟨r, rest, e, _⟩ := h.iv.inv.root; rw [e]; simp
  obtain ⟨g0, cap, rfl, hlc, _, hg0⟩ := own_block2 h.rb hl0
  have HH := Lib.hid h
  have HBC := Lib.hid (fun W (hb : Below w.heap.size w W) (k : Nat) (hk : k < L.length) => own_at14 (h.rb.below hb) rfl k hk)
  have HO := Lib.hid (show ∀ W, Below w.heap.size w W → ∀ (k : Nat) (hk : k < L.length), Calls Tryd.prog 10 #[.pointer (some ⟨b, 0, none⟩), .int .i64 L[k].h] W fun e w' => e = .returned (.tuple #[aV L[k].a, aV L[k].c, .nilIface]) ∧ Below W.heap.size W w' from fun W hb k hk => by
    have hg := get_mem h.iv.inv.nd (List.getElem_mem hk)
    have hh := pof W b mb L (h.pb.below hb) L[k].h (h.iv.inv.wf _ (List.getElem_mem hk)).1
    unfold ofA ofC ofE at hh
    rw [hg] at hh
    exact hh)
  have HE := Lib.hid (fun W (hb : Below w.heap.size w W) => peven W b mb L (h.pb.below hb) (by omega) h.iv.inv.nd h.iv.inv.wf)
  have HR := Lib.hid (fun W (hb : Below w.heap.size w W) => reven W _ L (h.rb.below hb) (by omega))
  generalize evenB L = ev at HE HR
  clear h
  go_enter Tryd.func15, Tryd.ntmps15
  go_wp2_with fail
  go_loopw [5] (fun iv wr => ∃ i : Nat, iv = .int .i64 i ∧ i ≤ L.length ∧ Hid (Below w.heap.size w wr)) (fun iv _ => L.length - (intOf iv).toNat)
  case atStart => exact ⟨0, rfl, Nat.zero_le _, Lib.hid (Below.refl _ _)⟩
  case round =>
    obtain ⟨i, rfl, hi, HB⟩ := hrel
    by_cases hil : i < L.length
    · have hil' : (i : Int) < (L.length : Int) := by omega
      have HOi := Lib.hid (HO.out wr HB.out i hil)
      have HC := Lib.hid (fun W hb => HBC.out W hb i hil)
      generalize L[i] = x at HOi HC
      have c0 := (HC.out wr HB.out).1
      go_wp2_with fail
      refine HOi.out.mono ?_
      rintro e w1 ⟨rfl, hb1⟩
      obtain ⟨W2, hW2⟩ : ∃ W2, W2 = (w1.alloc (.cells #[.int .i64 x.a.g, .int .i64 x.a.o, .int .i64 x.a.l, .int .i64 x.a.d, .int .i64 x.a.c, .int .i64 x.a.t] 34)).alloc (.cells #[.int .i64 x.c.g, .int .i64 x.c.o, .int .i64 x.c.l, .int .i64 x.c.d, .int .i64 x.c.c, .int .i64 x.c.t] 34) := ⟨_, rfl⟩
      have HB2 := Lib.hid (show Below w.heap.size w W2 from by rw [hW2]; exact below_alloc (below_alloc (bnext HB.out hb1) _) _)
      obtain ⟨a0, a1, a2, a3, a4, a5⟩ := acc6 (a := x.a) (show Has W2 w1.heap.size (.cells #[.int .i64 x.a.g, .int .i64 x.a.o, .int .i64 x.a.l, .int .i64 x.a.d, .int .i64 x.a.c, .int .i64 x.a.t] 34) from by rw [hW2]; exact has_old (has_new _ _ _ rfl) _)
      obtain ⟨k0, k1, k2, k3, k4, k5⟩ := acc6 (a := x.c) (show Has W2 (w1.heap.size + 1) (.cells #[.int .i64 x.c.g, .int .i64 x.c.o, .int .i64 x.c.l, .int .i64 x.c.d, .int .i64 x.c.c, .int .i64 x.c.t] 34) from by rw [hW2]; exact has_new _ _ _ (by simp))
      clear c0 hb1
      obtain ⟨c0, c1, c2, c3, c4, c5, c6, c7, c8, c9, c10, c11, c12, c13⟩ := HC.out W2 HB2.out
      have HW2 := Lib.hid hW2
      clear hW2
      go_wp2_with fail
      rw [← HW2.out]
      go_quiet (fail)
      have HBq := Lib.hid (below_drewN HB2.out nq)
      go_wp2_with fail
      go_roundw
      case rel => exact ⟨i + 1, by go_num, by omega, HBq⟩
      case measure => simp [intOf]; omega
    · have hd : decide (i < L.length) = false := decide_eq_false hil
      go_wp2_with fail
      refine (HE.out _ HB.out).mono ?_
      rintro e w1 ⟨rfl, hb1⟩
      have HB1 := Lib.hid (bnext HB.out hb1)
      clear hb1
      go_wp2_with fail
      refine (HR.out _ HB1.out).mono ?_
      rintro e w2 ⟨rfl, hb2⟩
      have HB2 := Lib.hid (bnext HB1.out hb2)
      clear hb2
      go_wp2_with fail
      go_ret
      exact ⟨by simp, HB2.out⟩
end Go.Proofs.YtdbfjcdglcagaaaDoor
