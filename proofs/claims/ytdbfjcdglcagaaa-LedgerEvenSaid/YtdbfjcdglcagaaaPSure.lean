/- What must come whatever the input is; no condition. -/
import Derived.Test.YtdbfjcdglcagaaaPInv
import Derived.Test.YtdbfjcdglcagaaaPCharge
import Derived.Test.YtdbfjcdglcagaaaPEven
namespace Go.Proofs.Ytdbfjcdglcagaaa
open Go.RowKit Bk

def L1 : List Ln := [⟨1, 0, z6, z6⟩]
def L2 : List Ln := [⟨1, 0, ⟨1, 1, 0, 0, 0, 0⟩, z6⟩]
theorem iv_L1 : Iv L1 := iv_new (by unfold I64; omega) (by decide)
theorem charge_L1 : chargeE L1 1 (fun _ => 1) = 0 ∧ chargeB L1 1 (fun _ => 1) false = L2 := by
  have hok : okP L1 1 (fun _ => 1) := ⟨by omega, fun j hj => ⟨⟨1, 0, z6, z6⟩, rfl, by rw [if_pos (by omega)]⟩⟩
  have hE : chargeE L1 1 (fun _ => 1) = 0 := by unfold chargeE; rw [if_neg (fun k => k hok), if_neg (by unfold rootG L1 z6; decide)]
  refine ⟨hE, ?_⟩
  unfold chargeB
  rw [if_pos hE]
  have w1 : wrap64 1 = 1 := by unfold wrap64; rfl
  unfold incs incs updB L1 L2
  simp [gUp, lastUp, z6, w1]
theorem even_L2 : evenB L2 = true := by
  have w1 : wrap64 1 = 1 := by unfold wrap64; rfl
  simp [evenB, L2, evenX, sumP, z6, w1]
theorem nums_one (w : World) (x : Int) (t : TypeId) : Nums (w.alloc (.cells #[.int .i64 x] t)) (.slice (some ⟨w.heap.size, 0, none⟩) 1 1) 1 (fun _ => x) := by
  refine ⟨_, _, rfl, by omega, fun j hj => ⟨w.heap.size, 0, rfl, ?_⟩⟩
  have e : j = 0 := by omega
  subst e
  rw [has_cell (has_new w (.cells #[.int .i64 x] t) _ rfl)]
  rfl
set_option maxHeartbeats 2000000 in
set_option maxRecDepth 100000 in
theorem sure_any (w : World) : Calls Try.prog 11 #[] w fun e w' => e = .returned (.bool true) ∧ Below w.heap.size w w' := by
  have HN := Lib.hid (pnew w 1 (by unfold I64; omega) (by decide))
  go_enter Try.func11, Try.ntmps11
  go_wp2_with fail
  refine HN.out.mono ?_
  rintro e w1 ⟨b, mb, rfl, hbk, hb1, hm1, hw1⟩
  have HB1 := Lib.hid hw1
  have HBK := Lib.hid hbk
  have HC := Lib.hid (fun (W : World) (hb : Below w1.heap.size w1 W) (v : Value) (hv : Nums W v 1 (fun _ => 1)) => pcharge W b mb L1 (PBk.below hbk hb) (by simp [L1]) iv_L1.inv v 1 (fun _ => 1) hv (fun _ _ => by unfold I64; omega) false)
  clear hbk hw1
  go_wp2_with fail
  refine (HC.out _ ((Below.refl _ _).alloc (Nat.le_refl _) _) _ (nums_one _ _ _)).mono ?_
  rintro e w2 ⟨rfl, hp2, hk2⟩
  rw [charge_L1.1, charge_L1.2] at *
  rw [errV_0]
  have HB2 := Lib.hid (below_keeps (below_alloc HB1.out _) hk2 (fun x e => by rw [e]; exact hm1))
  have HP2 := Lib.hid hp2
  have HO := Lib.hid (show ∀ W, Below w2.heap.size w2 W → Calls Try.prog 9 #[.pointer (some ⟨b, 0, none⟩), .int .i64 1] W fun e w' => e = .returned (.tuple #[.agg #[.int .i64 1, .int .i64 1, .int .i64 0, .int .i64 0, .int .i64 0, .int .i64 0], .agg #[.int .i64 0, .int .i64 0, .int .i64 0, .int .i64 0, .int .i64 0, .int .i64 0], .nilIface]) ∧ Below W.heap.size W w' from fun W hb => pof W b mb L2 (hp2.below hb) 1 (by unfold I64; omega))
  have HE := Lib.hid (fun W (hb : Below w2.heap.size w2 W) => peven W b mb L2 (hp2.below hb) (by simp [L2]) (by simp [L2, Nd]) (by intro x hx; simp [L2] at hx; subst hx; unfold I64; simp))
  rw [even_L2] at HE
  clear hp2 hk2
  go_wp2_with fail
  refine (HO.out _ (Below.refl _ _)).mono ?_
  rintro e w3 ⟨rfl, hb3⟩
  have HB3 := Lib.hid hb3
  clear hb3
  go_wp2_with fail
  refine (HE.out _ (below_alloc (below_alloc HB3.out _) _)).mono ?_
  rintro e w4 ⟨rfl, hb4⟩
  have HB4 := Lib.hid (bnext HB2.out (bnext (below_alloc (below_alloc HB3.out _) _) hb4))
  clear hb4
  go_wp2_with fail
  go_ret
  exact ⟨rfl, HB4.out⟩
end Go.Proofs.Ytdbfjcdglcagaaa
