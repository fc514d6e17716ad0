/- The document's own All of a table; no condition but those that each row names. -/
import Derived.Test.YtmmbopaieffgeaaDoorSAllP
namespace Go.Proofs.YtmmbopaieffgeaaDoor
open Go.RowKit

set_option maxHeartbeats 2000000 in
set_option maxRecDepth 100000 in
theorem rall_any (S : Nat → Prop) (A : Tab) (hA : A.Good) (gs ts ls : Value) (w : World) (h : RT S w A gs ts ls) (hS : ∀ x, S x → x < w.heap.size) :
    Calls Tryd.prog 29 #[rv A.kind gs ts ls] w (AllPost S w A) := by
  obtain ⟨⟨p, cp, rfl, hm, hg⟩, ⟨q, cq, rfl, _, ht⟩, _⟩ := h
  obtain ⟨i0, hi, hz0, hz1, hz2⟩ := info_parts Tryd.info40
  have e1 := ints_len A.gens
  have e2 := bools_len A.taken
  have n4 := hA.n4
  have hlt := hA.lt
  rw [e1] at hm ⊢
  rw [e2, hlt]
  have HG := Lib.hid hg
  have HT := Lib.hid ht
  have HLT := Lib.hid hlt
  have HA := Lib.hid hA
  have HS := Lib.hid hS
  clear hg ht e1 e2 hlt hA hS
  have hb0 : ∀ o, Below w.heap.size w (w.alloc o) := fun o => (Below.refl _ _).alloc (Nat.le_refl _) o
  go_enter Tryd.func29, Tryd.ntmps29
  go_wp2_with fail
  go_loopw [3, 4] (fun x i wr => ∃ k : Nat, k ≤ A.gens.length ∧ i = .int .i64 k ∧ Hid (wr.ownsRow (w.heap.size + 1) 40 1 x (allTo A k).length (ints (allTo A k))) ∧ Below (w.heap.size + 1) (w.alloc (.cells #[.int .i64 A.kind, .slice p A.gens.length cp, .slice q A.gens.length cq, ls] 30)) wr ∧ Below w.heap.size w wr ∧
      wr.cell? ⟨w.heap.size, 0, none⟩ = some (.int .i64 A.kind) ∧ wr.cell? ⟨w.heap.size, 1, none⟩ = some (.slice p A.gens.length cp) ∧ wr.cell? ⟨w.heap.size, 2, none⟩ = some (.slice q A.gens.length cq)) (fun _ i _ => A.gens.length - (intOf i).toNat)
  case atStart => exact ⟨0, Nat.zero_le _, rfl, Lib.hid (World.ownsRow_nil _ _ _ _), Below.refl _ _, hb0 _, by simp, by simp, by simp⟩
  case round =>
    obtain ⟨k, hk, rfl, HX, hbb, hb, c0, c1, c2⟩ := hrel
    by_cases hlt : k < A.gens.length
    · obtain ⟨b, off, rfl, _, hd1⟩ := HT.out k _ (bools_at (by rw [HLT.out]; exact hlt))
      obtain ⟨b2, off2, rfl, _, hd2⟩ := HG.out k _ (ints_at hlt)
      have hc1 : wr.cell? ⟨b, off + k, none⟩ = _ := (hb.cell (p := ⟨b, off + k, none⟩) (cell_lt hd1)).trans hd1
      have hc2 : wr.cell? ⟨b2, off2 + k, none⟩ = _ := (hb.cell (p := ⟨b2, off2 + k, none⟩) (cell_lt hd2)).trans hd2
      have hblk := cell_lt hd2
      simp only at hblk
      clear hd1 hd2
      have z0 : (0 : Int) ≤ (k : Int) := by omega
      have z1 : (k : Int) < (A.gens.length : Int) := by omega
      cases htk : A.taken.getD k false with
      | true =>
        rw [htk] at hc1
        have hp : okP A.kind k (A.gens.getD k 0) := ⟨HA.out.k1, HA.out.k3, by omega, by omega, (HA.out.g1 k hlt).1, HA.out.gt k hlt htk⟩
        have HM := Lib.hid (fun w => rmk_ok A.kind k (A.gens.getD k 0) w hp)
        have hhd : mkH A.kind k (A.gens.getD k 0) = A.hd k := rfl
        rw [hhd] at HM
        have HE := Lib.hid (allTo_yes htk)
        have hn4 := allTo_len A k
        have hsz := hbb.size
        simp at hsz
        clear htk hp hhd
        generalize A.gens.getD k 0 = g at *
        have HC := Lib.hid (show ∀ W, Below (w.heap.size + 1) (w.alloc (.cells #[.int .i64 A.kind, .slice (some ⟨b2, off2, none⟩) A.gens.length cp, .slice (some ⟨b, off, none⟩) A.gens.length cq, ls] 30)) W → W.cell? ⟨w.heap.size, 0, none⟩ = some (.int .i64 A.kind) ∧ W.cell? ⟨w.heap.size, 1, none⟩ = some (.slice (some ⟨b2, off2, none⟩) A.gens.length cp) ∧ W.cell? ⟨w.heap.size, 2, none⟩ = some (.slice (some ⟨b, off, none⟩) A.gens.length cq) from fun W hW =>
          ⟨(hW.cell (p := ⟨w.heap.size, 0, none⟩) (by simp)).trans (by simp), (hW.cell (p := ⟨w.heap.size, 1, none⟩) (by simp)).trans (by simp), (hW.cell (p := ⟨w.heap.size, 2, none⟩) (by simp)).trans (by simp)⟩)
        have HGW := Lib.hid (fun w4 (hg4 : World.grownBy (wr.drew.alloc (.cells #[.int .i64 (A.hd k)] 40)) w4 (Value.ownBlock u3)) => ((below_drew hbb).alloc (by simp; omega) (.cells #[.int .i64 (A.hd k)] 40)).grown hg4 (by simp; omega) (fun g e => (HX.out.lt g e).1))
        have HB2 := Lib.hid (show b2 < w.heap.size + 1 from by have := hblk; omega)
        have HW := Lib.hid (fun w4 (hb4 : Below (w.heap.size + 1) (w.alloc (.cells #[.int .i64 A.kind, .slice (some ⟨b2, off2, none⟩) A.gens.length cp, .slice (some ⟨b, off, none⟩) A.gens.length cq, ls] 30)) w4) => (show w4.cell? ⟨w.heap.size, 0, none⟩ = some (.int .i64 A.kind) ∧ w4.cell? ⟨w.heap.size, 1, none⟩ = some (.slice (some ⟨b2, off2, none⟩) A.gens.length cp) ∧ w4.cell? ⟨b2, off2 + k, none⟩ = some (.int .i64 g) from
          ⟨(HC.out w4 hb4).1, (HC.out w4 hb4).2.1, ((hb4.cell (p := ⟨b2, off2 + k, none⟩) HB2.out).trans (hbb.cell (p := ⟨b2, off2 + k, none⟩) HB2.out).symm).trans hc2⟩))
        go_wp2_with fail
        go_region_held3 (fun w' => w'.cell? ⟨w.heap.size, 0, none⟩ = some (.int .i64 A.kind) ∧ w'.cell? ⟨w.heap.size, 1, none⟩ = some (.slice (some ⟨b2, off2, none⟩) A.gens.length cp) ∧ w'.cell? ⟨b2, off2 + k, none⟩ = some (.int .i64 g))
          (first | exact ⟨c0, c1, hc2⟩ | exact ⟨(World.cell?_alloc_lt _ _ ⟨w.heap.size, 0, none⟩ (by simp; omega)).trans c0, (World.cell?_alloc_lt _ _ ⟨w.heap.size, 1, none⟩ (by simp; omega)).trans c1, (World.cell?_alloc_lt _ _ ⟨b2, off2 + k, none⟩ (cell_lt hc2)).trans hc2⟩ | exact HW.out w4 hb4)
          (first
            | (go_at_call 30; refine (HM.out _).mono ?_; rintro e w1 ⟨rfl, rfl⟩)
            | ((refine step_append_lies _ (by rfl) (.tmp 17) (.tmp 27) 49 (by rfl) (w.heap.size + 1) 40 i0 (.int .i64 0) 1 8 Tryd.underlying49 hi hz0 hz1 hz2 rfl (by decide) _ _ _ (by rfl) ((own_drew HX.out).alloc _) ⟨wr.heap.size, 0, none⟩ 1 1 [.int .i64 (A.hd k)] (by rfl) rfl (news_one wr.drew _ _) (by intro u hu; simp at hu; subst hu; rfl) (by decide) (by unfold maxLen; omega) (by omega) (by simp; omega) (wr.heap.size + 1) (by simp) ?_; intro g' cap w4 hown4 hgrow4 hat4 hlt4; have hb4 := HGW.out w4 hgrow4)))
        go_wp2_with fail
        have HO := Lib.hid (show w4.ownsRow (w.heap.size + 1) 40 1 (.slice (some ⟨g', 0, none⟩) ((allTo A k).length + 1) cap) (allTo A (k + 1)).length (ints (allTo A (k + 1))) by
          rw [HE.out, ← ints_snoc, List.length_append]; exact hown4)
        obtain ⟨x0, x1, x2⟩ := HC.out w4 hb4
        go_roundw
        case rel => exact ⟨k + 1, by omega, by go_num, HO, hb4, (hb0 _).trans (hb4.mono (by simp)), x0, x1, x2⟩
        case measure => simp [intOf]; omega
      | false =>
        rw [htk] at hc1
        have HE := Lib.hid (allTo_no htk)
        clear htk
        go_wp2_with fail
        go_roundw
        case rel => exact ⟨k + 1, by omega, by go_num, by rw [HE.out]; exact HX, hbb, hb, c0, c1, c2⟩
        case measure => simp [intOf]; omega
    · have hk' : k = A.gens.length := by omega
      have HE := Lib.hid (show allTo A k = A.all by rw [hk']; rfl)
      have hn4 := allTo_len A k
      clear hk'
      go_wp2_with fail
      go_ret
      have ho := HX.out
      rw [HE.out] at ho hn4
      exact ⟨_, rfl, Lst.of_own ho (ints_len _) (by omega) (fun x h _ c => by have := HS.out x c; omega), hb⟩
end Go.Proofs.YtmmbopaieffgeaaDoor
