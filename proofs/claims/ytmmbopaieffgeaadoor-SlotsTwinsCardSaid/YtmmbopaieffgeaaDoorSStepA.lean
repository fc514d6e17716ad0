/- The law's own step at any act; a free slot's thing is 0; no condition but those that each row names. -/
import Derived.Test.YtmmbopaieffgeaaDoorSStepS
import Derived.Test.YtmmbopaieffgeaaDoorSStepD
import Derived.Test.YtmmbopaieffgeaaDoorSStepG
import Derived.Test.YtmmbopaieffgeaaDoorSStepE
namespace Go.Proofs.YtmmbopaieffgeaaDoor
open Go.RowKit

/-- The things of free slots are 0. -/
def Zf (A : Tab) : Prop := ∀ i, A.t i = false → A.v i = 0
theorem zf_new (kind : Int) (n : Nat) : Zf (Tab.new kind n) := by
  intro i _
  unfold Tab.v Tab.new
  simp only [List.getD_eq_getElem?_getD, List.getElem?_replicate]
  split <;> rfl
theorem zf_add {A : Tab} (h : Zf A) (hA : A.Good) {i : Nat} (hi : i < A.gens.length) (x : Int) : Zf (A.addAt i x) := by
  intro j hj
  rw [add_t hA hi] at hj
  rw [add_v hA hi]
  by_cases e : i = j
  · rw [if_pos e] at hj; cases hj
  · rw [if_neg e] at hj ⊢; exact h j hj
theorem zf_set {A : Tab} (h : Zf A) (hA : A.Good) {i : Nat} (hi : i < A.gens.length) (ht : A.t i = true) (x : Int) : Zf (A.setAt i x) := by
  intro j hj
  have hj' : A.t j = false := hj
  rw [set_v hA hi]
  by_cases e : i = j
  · subst e; rw [ht] at hj'; cases hj'
  · rw [if_neg e]; exact h j hj'
theorem zf_drop {A : Tab} (h : Zf A) (hA : A.Good) {i : Nat} (hi : i < A.gens.length) : Zf (A.dropAt i) := by
  intro j hj
  rw [drop_t hA hi] at hj
  rw [drop_v hA hi]
  by_cases e : i = j
  · rw [if_pos e]
  · rw [if_neg e] at hj ⊢; exact h j hj

/-- How a table may turn. -/
structure StepOk (A A' : Tab) : Prop where
  good : A'.Good
  kind : A'.kind = A.kind
  len : A'.gens.length = A.gens.length
  zf : Zf A → Zf A'
theorem StepOk.refl {A : Tab} (h : A.Good) : StepOk A A := ⟨h, rfl, rfl, fun h => h⟩
theorem StepOk.trans {A B C : Tab} (h : StepOk A B) (k : StepOk B C) : StepOk A C := ⟨k.good, k.kind.trans h.kind, k.len.trans h.len, fun z => k.zf (h.zf z)⟩
theorem ok_add {A : Tab} (hA : A.Good) {i : Nat} (hi : A.free = some i) (x : Int) : StepOk A (A.addAt i x) := ⟨add_good hA hi x, rfl, rfl, fun z => zf_add z hA (fr_iff hi).1 x⟩
theorem ok_set {A : Tab} (hA : A.Good) {h : Int} {i : Nat} (hi : A.find h = some i) (x : Int) : StepOk A (A.setAt i x) := ⟨set_good hA i x, rfl, rfl, fun z => zf_set z hA (find_inv hi).1 (find_inv hi).2.1 x⟩
theorem ok_drop {A : Tab} (hA : A.Good) {h : Int} {i : Nat} (hi : A.find h = some i) : StepOk A (A.dropAt i) := ⟨drop_good hA hi, rfl, by simp [Tab.dropAt], fun z => zf_drop z hA (find_inv hi).1⟩

theorem step_any (S T : Nat → Prop) (B : Nat) (A : Tab) (hA : A.Good) (k h x : Int) (v gs ts ls : Value) (w : World) (hin : StepIn S T B w A v gs ts ls) :
    Calls Tryd.prog 13 #[v, rv A.kind gs ts ls, .agg #[.int .i64 k, .int .i64 h, .int .i64 x]] w fun e w' => ∃ A', StepOk A A' ∧ StepPost S T B w A' v e w' := by
  by_cases k0 : k = 0
  · subst k0
    cases hf : A.free with
    | none =>
      exact (step_add S T B A A 0 30 h x v gs ts ls w hin rfl (fun W hW => padd_none S B A hA W v hW x hf) (fun U W hW _ => radd_none U A hA x hf gs ts ls W hW)).mono fun e w' hp => ⟨A, StepOk.refl hA, hp⟩
    | some i =>
      exact (step_add S T B A (A.addAt i x) (A.hd i) 0 h x v gs ts ls w hin rfl (fun W hW => padd_some S B A hA W v hW x i hf) (fun U W hW hU => radd_some U A hA x i hf gs ts ls W hW hU)).mono fun e w' hp => ⟨_, ok_add hA hf x, hp⟩
  · by_cases k1 : k = 1
    · subst k1
      exact (step_get S T B A (getV A h) (getN A h) h x v gs ts ls w hin (fun W hW => pget S B A hA W v hW h) (fun W hW => rget_any T A hA h gs ts ls W hW)).mono fun e w' hp => ⟨A, StepOk.refl hA, hp⟩
    · by_cases k2 : k = 2
      · subst k2
        cases hf : A.find h with
        | none => exact (step_set S T B A A 20 h x v gs ts ls w hin rfl (fun W hW => pset_none S B A hA W v hW h x hf) (fun U W hW _ => rset_none U A hA h x hf gs ts ls W hW)).mono fun e w' hp => ⟨A, StepOk.refl hA, hp⟩
        | some i => exact (step_set S T B A (A.setAt i x) 0 h x v gs ts ls w hin rfl (fun W hW => pset_some S B A hA W v hW h x i hf) (fun U W hW hU => rset_some U A hA h x i hf gs ts ls W hW hU)).mono fun e w' hp => ⟨_, ok_set hA hf x, hp⟩
      · by_cases k3 : k = 3
        · subst k3
          cases hf : A.find h with
          | none => exact (step_drop S T B A A 20 h x v gs ts ls w hin rfl (fun W hW => pdrop_none S B A hA W v hW h hf) (fun U W hW _ => rdrop_none U A hA h hf gs ts ls W hW)).mono fun e w' hp => ⟨A, StepOk.refl hA, hp⟩
          | some i => exact (step_drop S T B A (A.dropAt i) 0 h x v gs ts ls w hin rfl (fun W hW => pdrop_some S B A hA W v hW h i hf) (fun U W hW hU => rdrop_some U A hA h i hf gs ts ls W hW hU)).mono fun e w' hp => ⟨_, ok_drop hA hf, hp⟩
        · exact (step_else S T B A hA k h x k0 k1 k2 k3 v gs ts ls w hin).mono fun e w' hp => ⟨A, StepOk.refl hA, hp⟩

/-- What must come whatever the input is. -/
theorem sure_hd : (Tab.new 1 2).hd 0 = 1099511627777 := by decide
theorem sure_free : (Tab.new 1 2).free = some 0 := by decide
theorem sure_get : getV ((Tab.new 1 2).addAt 0 7) 1099511627777 = 7 := by decide
theorem sure_getN : getN ((Tab.new 1 2).addAt 0 7) 1099511627777 = 0 := by decide

set_option maxHeartbeats 1000000 in
set_option maxRecDepth 100000 in
theorem sure_true (w : World) : Calls Tryd.prog 12 #[] w fun e w' => e = .returned (.bool true) ∧ Below w.heap.size w w' := by
  have G := Lib.hid (new_good (kind := 1) (n := 2) (by omega) (by omega) (by omega) (by omega))
  have HN := Lib.hid (fun w => pnew_ok 1 2 w (by omega) (by omega) (by omega) (by omega))
  have HA := Lib.hid (fun S B W v h => padd_some S B (Tab.new 1 2) G.out W v h 7 0 sure_free)
  have HG := Lib.hid (fun S B W v h => pget S B ((Tab.new 1 2).addAt 0 7) (add_good G.out sure_free 7) W v h 1099511627777)
  rw [sure_hd] at HA
  rw [sure_get, sure_getN, errV_0] at HG
  have HM := Lib.hid (fun w => rmk_ok 1 0 1 w ⟨by omega, by omega, by omega, by omega, by omega, by omega⟩)
  rw [show mkH 1 0 1 = 1099511627777 by decide] at HM
  go_enter Tryd.func12, Tryd.ntmps12
  go_wp2_with fail
  refine (HN.out _).mono ?_
  rintro e w1 ⟨S, v, rfl, hpt, hb⟩
  have hl := Lib.hid hpt.lt
  obtain ⟨b, _, _, _, _, _, _, hv, _, _⟩ := id hpt
  subst hv
  have HPT := Lib.hid hpt
  clear hpt
  go_wp2_with fail
  refine (HA.out S w.heap.size w1 _ HPT.out).mono ?_
  rintro e w2 ⟨rfl, hpt2, hk2⟩
  go_wp2_with fail
  refine (HG.out S w.heap.size w2 _ hpt2).mono ?_
  rintro e w3 ⟨rfl, hb3⟩
  go_wp2_with fail
  refine (HM.out _).mono ?_
  rintro e w4 ⟨rfl, rfl⟩
  go_wp2_with fail
  go_ret
  exact ⟨rfl, bnext (below_keeps hb hk2 (fun y hy => (hl.out y hy).1)) hb3⟩
end Go.Proofs.YtmmbopaieffgeaaDoor
