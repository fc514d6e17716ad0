/- The walk of EdfOrder: whatever the children, it answers true; no condition but that they are at most 2^47 bytes. -/
import Derived.Test.YtfahpjilgdlhiaaWLawPicks
namespace Go.Proofs.Ytfahpjilgdlhiaa
open Go.RowKit Edf

set_option maxHeartbeats 4000000 in
set_option maxRecDepth 100000 in
theorem orders_any (w : World) (v : Value) (n : Nat) (c : Nat → Tri) (h : Tris w v n c) (hn : n * 24 ≤ 140737488355328) : Calls Try.prog 11 #[v] w fun e w' => e = .returned (.bool true) ∧ Below w.heap.size w w' := by
  have HV := Lib.hid (fun W (hb : Below w.heap.size w W) => h.below hb)
  have HP := Lib.hid (fun W u (f : Nat → Tri) (hu : Tris W u n f) => pick_any W u n f hu)
  have HO := Lib.hid (fun W u (hu : Tris W u n c) => order_any W u n c hu hn)
  have HW := Lib.hid (fun w => works_any w)
  have hn2 : n ≤ 9223372036854775807 := by omega
  have HPA := Lib.hid (fun k (h : k < (ordL c n).length) => pick_at h)
  have HPE := Lib.hid (pick_end (c := c) (n := n))
  have HLN := Lib.hid (fun k (h : k < (ordL c n).length) => (ordL_mem.1 (List.getElem_mem h)).1)
  have hLn : (ordL c n).length ≤ n := ordL_len n
  obtain ⟨p1, cap1, rfl, hm, _⟩ := h
  obtain ⟨i0, hi, hz0, hz1, hz2⟩ := info_parts Try.infCh
  generalize ordL c n = L at *
  by_cases h60 : 60 < n
  · have h60' : (60 : Int) < (n : Int) := by omega
    go_enter Try.func11, Try.ntmps11
    go_wp2_with fail
    refine (HW.out _).mono ?_
    rintro e w8 ⟨rfl, hb8⟩
    have HB8 := Lib.hid hb8
    clear hb8
    go_wp2_with fail
    go_ret
    exact ⟨rfl, HB8.out⟩
  · have h60' : (n : Int) ≤ 60 := by omega
    go_enter Try.func11, Try.ntmps11
    go_wp2_with fail
    go_loopw [3, 4] (fun ov iv wr => ∃ (k : Nat), k ≤ n ∧ iv = .int .i64 k ∧ Hid (TrisO ChT w.heap.size wr ov k c) ∧ Hid (Below w.heap.size w wr)) (fun _ iv _ => n - (intOf iv).toNat)
    case atStart => exact ⟨0, Nat.zero_le _, rfl, Lib.hid (nil_tris _ _ _ _), Lib.hid (Below.refl _ _)⟩
    case round =>
      obtain ⟨k, hk, rfl, HCO, HB⟩ := hrel
      by_cases hlt : k < n
      · have hlt' : (k : Int) < (n : Int) := by omega
        have k0 : (0 : Int) ≤ (k : Int) := by omega
        obtain ⟨_, _, hsl, _, hcs⟩ := HV.out wr HB.out
        injection hsl with hs1 hs2 hs3
        subst hs1 hs3
        obtain ⟨b1, off, rfl, c0, c1, c2⟩ := hcs k hlt
        clear hcs hs2
        have HE := Lib.hid (triL_succ c k)
        generalize (c k).a = xa at *
        generalize (c k).b = xb at *
        generalize (c k).c = xc at *
        go_wp2_with (at_builtin; refine wpList_append_own _ rfl _ _ 23 rfl w.heap.size ChT i0 (.agg #[.int .i64 0, .int .i64 0, .int .i64 0]) 3 24 Try.underlying23 hi hz0 hz1 hz2 rfl (by decide) _ _ _ rfl (HCO.out.alloc _) ⟨wr.heap.size, 0, none⟩ 1 1 [.int .i64 xa, .int .i64 xb, .int .i64 xc] rfl rfl (news3 wr _ _ _ _) ?a2 ?a3 ?a4 ?a5 ?_)
        case a2 => intro u hu; simp at hu; rcases hu with rfl | rfl | rfl <;> rfl
        case a3 => unfold maxLen; omega
        case a4 => omega
        case a5 => have := HB.out.size; simp; omega
        intro v' w2 hown2 hgrow2 _
        have HO1 := Lib.hid (show TrisO ChT w.heap.size w2 v' (k + 1) c from by
          show w2.ownsRow _ _ 3 v' (k + 1) (triL c (k + 1))
          rw [HE.out]; exact hown2)
        have HB2 := Lib.hid ((below_alloc HB.out (.cells #[.int .i64 xa, .int .i64 xb, .int .i64 xc] ChT)).grown hgrow2 (by have := HB.out.size; simp; omega) (fun g e => (HCO.out.lt g e).1))
        clear hown2 hgrow2
        go_wp2_with fail
        go_roundw
        case rel => exact ⟨k + 1, by omega, by go_num, HO1, HB2⟩
        case measure => simp [intOf]; omega
      · have hge : decide (k < n) = false := decide_eq_false hlt
        obtain rfl : k = n := by omega
        clear hlt
        obtain ⟨pc, cc, hcv, _⟩ := own_small HCO.out
        subst hcv
        go_wp2_with fail
        refine (HO.out _ _ (own_tris HCO.out hn2)).mono ?_
        rintro e w4 ⟨v4, rfl, ho4, hb4⟩
        obtain ⟨po, co, hpv, _⟩ := own_small ho4
        subst hpv
        have HOO := Lib.hid ho4
        have HC4 := Lib.hid (show TrisO ChT w.heap.size w4 (.slice pc k cc) k (picked c L 0) from by rw [picked_zero]; exact own_under HCO.out hb4)
        have HNE := Lib.hid (show ∀ b g, (Value.slice pc k cc).ownBlock = some b → (Value.slice po L.length co).ownBlock = some g → g ≠ b from fun b g e1 e2 e3 => by
          have k1 := own_blk HCO.out e1
          have k2 := (World.ownsRow.lt ho4 g e2).1
          omega)
        have HB4 := Lib.hid (bnext HB.out hb4)
        generalize wr.heap.size = B4 at *
        clear ho4 hb4 HCO HB
        go_wp2_with fail
        go_loopw [6] (fun kv wr => ∃ (j : Nat), j ≤ L.length ∧ kv = .int .i64 j ∧ Hid (TrisO ChT w.heap.size wr (.slice pc k cc) k (picked c L j)) ∧ Hid (NumsO B4 wr (.slice po L.length co) L.length (fnL L)) ∧ Hid (Below w.heap.size w wr)) (fun kv _ => L.length + 1 - (intOf kv).toNat)
        case atStart => exact ⟨0, Nat.zero_le _, rfl, HC4, HOO, HB4⟩
        case round =>
          clear HC4 HOO HB4
          obtain ⟨j, hjL, rfl, HC4, HOO, HB4⟩ := hrel
          have hjL' : (j : Int) ≤ (L.length : Int) := by omega
          by_cases hlj : j < L.length
          · have HPK := Lib.hid (show Calls Try.prog 12 #[.slice pc k cc] wr (IntPost wr (L[j] : Nat)) from by
              have h := HP.out wr _ _ (own_tris HC4.out hn2)
              rw [HPA.out j hlj] at h
              exact h)
            have hLk := HLN.out j hlj
            obtain ⟨G, capG, hgv, _, hgB, hgl⟩ := own_block2 HC4.out (by omega)
            cases hgv
            obtain ⟨g, cap, hgv, _, hgB2, hgl2⟩ := own_block2 HOO.out (by omega)
            cases hgv
            have hgG : g ≠ G := HNE.out G g rfl rfl
            have HS := Lib.hid (picked_succ (c := c) hlj)
            have hxo := (lst_at (g := fun j => Value.int .i64 (fnL L j)) hlj)
            rw [fnL_at hlj] at hxo
            generalize L[j] = q at *
            have hjne : ((j : Int) == (L.length : Int)) = false := by rw [beq_eq_false_iff_ne]; omega
            have hq' : (q : Int) < (k : Int) := by omega
            have q0 : (0 : Int) ≤ (q : Int) := by omega
            have hjl' : (j : Int) < (L.length : Int) := by omega
            have j0 : (0 : Int) ≤ (j : Int) := by omega
            go_wp2_with fail
            refine HPK.out.mono ?_
            rintro e w5 ⟨rfl, hb5⟩
            have HC5 := Lib.hid (own_under HC4.out hb5)
            have HO5 := Lib.hid (own_under HOO.out hb5)
            have HB5 := Lib.hid (bnext HB4.out hb5)
            have hl5 : G < w5.heap.size := (World.ownsRow.lt HC5.out G rfl).2
            clear hb5 HC4 HOO HB4 HPK
            have x0 : w5.cell? ⟨g, j, none⟩ = some (.int .i64 (q : Nat)) := by
              rw [World.ownsRow.cellAt HO5.out j (by omega)]
              exact hxo
            have x1 := (World.ownsRow.cellAt HC5.out (q * 3 + 1) (by omega)).trans (triL_at (picked c L j) hLk).2.1
            have xf := World.ownsRow.frozenAt HC5.out (q * 3 + 1)
            have HCN := Lib.hid (show TrisO ChT w.heap.size (w5.setCell ⟨G, q * 3 + 1, none⟩ (.int .i64 0)) (.slice (some ⟨G, 0, none⟩) k cc) k (picked c L (j + 1)) from by
              have h1 := (World.ownsRow.stored HC5.out (q * 3 + 1) (.int .i64 0)).1
              rw [triL_setb, HS.out] at h1
              exact h1)
            have HON := Lib.hid (own_keep HO5.out ((Keeps.refl (fun x => x = G) w5).setCell ⟨G, q * 3 + 1, none⟩ (.int .i64 0) rfl) (fun b e k => hgG (by
              have e2 : g = b := by simpa [Value.ownBlock] using e
              rw [e2]; exact k)))
            have HBN := Lib.hid (HB5.out.setCell (p := ⟨G, q * 3 + 1, none⟩) hgB (.int .i64 0))
            generalize (picked c L j q).b = old at *
            go_wp2_with fail
            go_roundw
            case rel => exact ⟨j + 1, by omega, by go_num, HCN, HON, HBN⟩
            case measure => simp [intOf]; omega
          · obtain rfl : j = L.length := by omega
            have HPK := Lib.hid (show Calls Try.prog 12 #[.slice pc k cc] wr (IntPost wr (-1)) from by
              have h := HP.out wr _ _ (own_tris HC4.out hn2)
              rw [HPE.out] at h
              exact h)
            clear HPA HPE HLN HNE HC4 HOO hlj
            generalize L.length = m at *
            go_wp2_with fail
            refine HPK.out.mono ?_
            rintro e w5 ⟨rfl, hb5⟩
            have HB5 := Lib.hid (bnext HB4.out hb5)
            clear hb5
            go_wp2_with fail
            refine (HW.out _).mono ?_
            rintro e w8 ⟨rfl, hb8⟩
            have HB8 := Lib.hid (bnext HB5.out hb8)
            clear hb8
            go_wp2_with fail
            go_ret
            exact ⟨rfl, HB8.out⟩
end Go.Proofs.Ytfahpjilgdlhiaa
