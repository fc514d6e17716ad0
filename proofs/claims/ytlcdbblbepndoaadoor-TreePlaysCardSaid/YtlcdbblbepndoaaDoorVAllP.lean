/- The program's All of a table; no condition but those that each row names. -/
import Derived.Test.YtlcdbblbepndoaaDoorVAddP
namespace Go.Proofs.YtlcdbblbepndoaaDoor
open Go.RowKit

/-- What All answers. -/
def AllPost (S : Nat → Prop) (w : World) (A : Tab) (e : Ending) (w' : World) : Prop := ∃ v, e = .returned v ∧ Lst S w' v (ints A.all) ∧ Below w.heap.size w w'

set_option maxHeartbeats 2000000 in
set_option maxRecDepth 100000 in
theorem pall (S T : Nat → Prop) (B : Nat) (A : Tab) (hA : A.Good) (w : World) (v : Value) (h : PTab T B w A v) (hS : ∀ x, S x → x < w.heap.size) :
    Calls Tryd.prog 65 #[v] w (AllPost S w A) := by
  obtain ⟨b, g1, c1, g2, c2, g3, c3, rfl, h, hTx⟩ := h
  clear hTx
  obtain ⟨i0, hi, hz0, hz1, hz2⟩ := info_parts Tryd.info33
  have n4 := hA.n4
  have hlt := hA.lt
  have f2 := h.f2
  rw [hlt] at f2
  have HP := Lib.hid (fun w1 (hb : Below w.heap.size w w1) => h.keeps (S := fun _ => False) (Keeps.of_below hb) (fun k => k) (fun k => k) (fun k => k) (fun k => k))
  have HA := Lib.hid hA
  have HS := Lib.hid hS
  have HLT := Lib.hid hlt
  clear h hlt hA hS
  go_enter Tryd.func65, Tryd.ntmps65
  go_wp2_with fail
  go_loopw [3, 4, 5, 11] (fun x _ _ i wr => ∃ k : Nat, k ≤ A.gens.length ∧ i = .int .i64 k ∧ Hid (wr.ownsRow w.heap.size 33 1 x (allTo A k).length (ints (allTo A k))) ∧ Below w.heap.size w wr) (fun _ _ _ i _ => A.gens.length - (intOf i).toNat)
  case atStart => exact ⟨0, Nat.zero_le _, rfl, Lib.hid (World.ownsRow_nil _ _ _ _), Below.refl _ _⟩
  case round =>
    obtain ⟨k, hk, rfl, HX, hb⟩ := hrel
    by_cases hlt : k < A.gens.length
    · have q := (HP.out wr hb).own.t.cellAt k (by have := HLT.out; omega)
      rw [bools_at (by have := HLT.out; omega)] at q
      have z0 : (0 : Int) ≤ (k : Int) := by omega
      have z1 : (k : Int) < (A.gens.length : Int) := by omega
      cases ht : A.taken.getD k false with
      | true =>
        rw [ht] at q
        have HC := Lib.hid (phandle B A HA.out wr b g1 c1 g2 c2 g3 c3 (HP.out wr hb) k hlt (HA.out.gt k hlt ht))
        have HE := Lib.hid (allTo_yes ht)
        have hn4 := allTo_len A k
        have hsz := hb.size
        clear ht
        go_wp2_with fail
        refine HC.out.mono ?_
        rintro e w1 ⟨rfl, nd, rfl⟩
        have hX1 := own_drewN HX.out nd
        have hb1 : Below w.heap.size w (wr.drewN nd) := below_drewN hb nd
        have hsz1 : w.heap.size ≤ (wr.drewN nd).heap.size := hb1.size
        have HX1 := Lib.hid hX1
        clear hX1
        generalize wr.drewN nd = W at *
        go_wp2_with (at_builtin; refine wpList_append_own _ rfl _ _ 43 rfl w.heap.size 33 i0 (.int .i64 0) 1 8 Tryd.underlying43 hi hz0 hz1 hz2 rfl (by decide) _ _ _ rfl (HX1.out.alloc _) ⟨W.heap.size, 0, none⟩ 1 1 [.int .i64 (A.hd k)] rfl rfl ?a1 ?a2 ?a3 ?a4 ?a5 ?_)
        case a1 => exact news_one W _ _
        case a2 => intro u hu; simp at hu; subst hu; rfl
        case a3 => unfold maxLen; omega
        case a4 => omega
        case a5 => simp; omega
        intro v' w2 hown2 hgrow2 _
        have HG := Lib.hid hgrow2
        have HO := Lib.hid (show w2.ownsRow w.heap.size 33 1 v' (allTo A (k + 1)).length (ints (allTo A (k + 1))) by
          rw [HE.out, ← ints_snoc, List.length_append]; exact hown2)
        have hX := HX1.out
        have HB2 : Below w.heap.size w w2 := (below_alloc hb1 _).grown hgrow2 (by simp; omega) (fun g e => (hX.lt g e).1)
        clear hown2 hgrow2 hX
        go_wp2_with fail
        go_roundw
        case rel => exact ⟨k + 1, by omega, by go_num, HO, HB2⟩
        case measure => simp [intOf]; omega
      | false =>
        rw [ht] at q
        have HE := Lib.hid (allTo_no ht)
        clear ht
        go_wp2_with fail
        go_roundw
        case rel => exact ⟨k + 1, by omega, by go_num, by rw [HE.out]; exact HX, hb⟩
        case measure => simp [intOf]; omega
    · have hk' : k = A.gens.length := by omega
      have HE := Lib.hid (show allTo A k = A.all by rw [hk']; rfl)
      have hn4 := allTo_len A k
      clear hk'
      go_wp2_with fail
      go_ret
      have ho := HX.out
      rw [HE.out] at ho hn4
      exact ⟨_, rfl, Lst.of_own ho (ints_len _) (by omega) (fun x h _ c => by have := HS.out x c; omega), hb⟩
end Go.Proofs.YtlcdbblbepndoaaDoor
