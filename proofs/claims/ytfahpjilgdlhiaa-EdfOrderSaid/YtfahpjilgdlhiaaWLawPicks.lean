/- The walk of EdfPicks: whatever the children, it answers true; no condition but that they are at most 2^47 bytes. -/
import Derived.Test.YtfahpjilgdlhiaaWWorks
import Derived.Test.YtfahpjilgdlhiaaWROrder
import Derived.Test.YtfahpjilgdlhiaaWPlanP
import Derived.Test.YtfahpjilgdlhiaaWLawA
import Derived.Deep.QuietTactic
import Derived.BigQuiet
namespace Go.Proofs.Ytfahpjilgdlhiaa
open Go.RowKit Edf

theorem OrdPost.one {w : World} {L : List Nat} {e : Ending} {w' : World} (h : OrdPost w L e w') (hn : L.length ≤ 9223372036854775807) : ∃ p cap, e = .returned (.slice p L.length cap) ∧ Nums w' (.slice p L.length cap) L.length (fnL L) ∧ Below w.heap.size w w' := by
  obtain ⟨v, rfl, ho, hb⟩ := h
  obtain ⟨p, cap, rfl, _⟩ := own_small ho
  exact ⟨p, cap, rfl, own_nums ho hn, hb⟩
set_option maxHeartbeats 4000000 in
set_option maxRecDepth 100000 in
theorem picks_any (w : World) (v : Value) (n : Nat) (c : Nat → Tri) (h : Tris w v n c) (hn : n * 24 ≤ 140737488355328) : Calls Try.prog 3 #[v] w fun e w' => e = .returned (.bool true) ∧ Below w.heap.size w w' := by
  have HV := Lib.hid (fun W (hb : Below w.heap.size w W) => h.below hb)
  have HP := Lib.hid (fun W u (hu : Tris W u n c) => pick_any W u n c hu)
  have HRP := Lib.hid (fun W (hb : Below w.heap.size w W) => rpick_any W v n c (h.below hb))
  have HO := Lib.hid (fun W u (hu : Tris W u n c) => order_any W u n c hu hn)
  have HRO := Lib.hid (fun W (hb : Below w.heap.size w W) => rorder_any W v n c (h.below hb) hn)
  have HW := Lib.hid (fun w => works_any w)
  have hn2 : n ≤ 9223372036854775807 := by omega
  have hol : (ordL c n).length ≤ 9223372036854775807 := by have := ordL_len (c := c) n; omega
  obtain ⟨p1, cap1, rfl, hm, _⟩ := h
  obtain ⟨i0, hi, hz0, hz1, hz2⟩ := info_parts Try.infCh
  generalize placeZ (pick c n) = pz at *
  generalize ordL c n = L at *
  go_enter Try.func3, Try.ntmps3
  go_wp2_with fail
  go_loopw [3, 4] (fun ov iv wr => ∃ (k : Nat), k ≤ n ∧ iv = .int .i64 k ∧ Hid (TrisO ChT w.heap.size wr ov k c) ∧ Hid (Below w.heap.size w wr)) (fun _ iv _ => n - (intOf iv).toNat)
  case atStart => exact ⟨0, Nat.zero_le _, rfl, Lib.hid (nil_tris _ _ _ _), Lib.hid (Below.refl _ _)⟩
  case round =>
    obtain ⟨k, hk, rfl, HCO, HB⟩ := hrel
    by_cases hlt : k < n
    · have hlt' : (k : Int) < (n : Int) := by omega
      have k0 : (0 : Int) ≤ (k : Int) := by omega
      obtain ⟨_, _, hsl, _, hcs⟩ := HV.out wr HB.out
      injection hsl with hs1 hs2 hs3
      subst hs1 hs3
      obtain ⟨b1, off, rfl, c0, c1, c2⟩ := hcs k hlt
      clear hcs hs2
      have HE := Lib.hid (triL_succ c k)
      generalize (c k).a = xa at *
      generalize (c k).b = xb at *
      generalize (c k).c = xc at *
      go_wp2_with (at_builtin; refine wpList_append_own _ rfl _ _ 23 rfl w.heap.size ChT i0 (.agg #[.int .i64 0, .int .i64 0, .int .i64 0]) 3 24 Try.underlying23 hi hz0 hz1 hz2 rfl (by decide) _ _ _ rfl (HCO.out.alloc _) ⟨wr.heap.size, 0, none⟩ 1 1 [.int .i64 xa, .int .i64 xb, .int .i64 xc] rfl rfl (news3 wr _ _ _ _) ?a2 ?a3 ?a4 ?a5 ?_)
      case a2 => intro u hu; simp at hu; rcases hu with rfl | rfl | rfl <;> rfl
      case a3 => unfold maxLen; omega
      case a4 => omega
      case a5 => have := HB.out.size; simp; omega
      intro v' w2 hown2 hgrow2 _
      have HO1 := Lib.hid (show TrisO ChT w.heap.size w2 v' (k + 1) c from by
        show w2.ownsRow _ _ 3 v' (k + 1) (triL c (k + 1))
        rw [HE.out]; exact hown2)
      have HB2 := Lib.hid ((below_alloc HB.out (.cells #[.int .i64 xa, .int .i64 xb, .int .i64 xc] ChT)).grown hgrow2 (by have := HB.out.size; simp; omega) (fun g e => (HCO.out.lt g e).1))
      clear hown2 hgrow2
      go_wp2_with fail
      go_roundw
      case rel => exact ⟨k + 1, by omega, by go_num, HO1, HB2⟩
      case measure => simp [intOf]; omega
    · have hge : decide (k < n) = false := decide_eq_false hlt
      obtain rfl : k = n := by omega
      clear hlt
      obtain ⟨pc, cc, hcv, _⟩ := own_small HCO.out
      subst hcv
      go_wp2_with fail
      refine (HP.out _ _ (own_tris HCO.out hn2)).mono ?_
      rintro e w2 ⟨rfl, hb2⟩
      have HC2 := Lib.hid (own_under HCO.out hb2)
      have HB2 := Lib.hid (bnext HB.out hb2)
      clear hb2 HCO HB
      go_wp2_with fail
      refine (HRP.out _ HB2.out).mono ?_
      rintro e w3 ⟨rfl, hb3⟩
      have HC3 := Lib.hid (own_under HC2.out hb3)
      have HB3 := Lib.hid (bnext HB2.out hb3)
      clear hb3 HC2
      go_wp2_with fail
      refine (HO.out _ _ (own_tris HC3.out hn2)).mono ?_
      intro e w4 hpost
      obtain ⟨p4, cap4, rfl, hn4, hb4⟩ := hpost.one hol
      have HN4 := Lib.hid hn4
      have HC4 := Lib.hid (own_under HC3.out hb4)
      have HB4 := Lib.hid (bnext HB3.out hb4)
      clear hpost hn4 hb4 HC3
      go_wp2_with fail
      refine (HRO.out _ HB4.out).mono ?_
      intro e w5 hpost
      obtain ⟨p5, cap5, rfl, hn5, hb5⟩ := hpost.one hol
      have HN5 := Lib.hid hn5
      have HN4 := Lib.hid (HN4.out.below hb5)
      have HC5 := Lib.hid (own_under HC4.out hb5)
      have HB5 := Lib.hid (bnext HB4.out hb5)
      clear hpost hn5 hb5 HC4
      go_wp2_with fail
      refine (same_yes _ _ _ L.length _ HN4.out HN5.out).mono ?_
      rintro e w6 ⟨rfl, hb6⟩
      have HC6 := Lib.hid (own_under HC5.out hb6)
      have HB6 := Lib.hid (bnext HB5.out hb6)
      clear hb6 HN4 HN5 HC5
      go_wp2_with fail
      go_loopw [6] (fun iv wr => ∃ (i : Nat), i ≤ k ∧ iv = .int .i64 i ∧ Hid (TrisO ChT w.heap.size wr (.slice pc k cc) k c) ∧ Hid (Below w.heap.size w wr)) (fun iv _ => k - (intOf iv).toNat)
      case atStart => exact ⟨0, Nat.zero_le _, rfl, HC6, HB6⟩
      case round =>
        clear HC6 HB6
        obtain ⟨i, hik, rfl, HC6, HB6⟩ := hrel
        by_cases hlti : i < k
        · have hli' : (i : Int) < (k : Int) := by omega
          have i00 : (0 : Int) ≤ (i : Int) := by omega
          obtain ⟨_, _, hsl, _, hcs⟩ := HV.out _ HB6.out
          injection hsl with hs1 hs2 hs3
          subst hs1 hs3
          obtain ⟨b1, off, rfl, c0, c1, c2⟩ := hcs i hlti
          clear hcs hs2
          obtain ⟨g, cap, hgv, _, hgB, hgl⟩ := own_block2 HC6.out (by omega)
          cases hgv
          obtain ⟨t0, t1, t2⟩ := triL_at c hlti
          have d0 := (World.ownsRow.cellAt HC6.out (i * 3) (by omega)).trans t0
          have d1 := (World.ownsRow.cellAt HC6.out (i * 3 + 1) (by omega)).trans t1
          have d2 := (World.ownsRow.cellAt HC6.out (i * 3 + 2) (by omega)).trans t2
          clear t0 t1 t2
          generalize (c i).a = xa at *
          generalize (c i).b = xb at *
          generalize (c i).c = xc at *
          go_upto_region 10 with fail
          go_quiet (fail)
          go_wp2_with fail
          go_roundw
          case rel => exact ⟨i + 1, by omega, by go_num, Lib.hid (own_under HC6.out (below_drewN (Below.refl _ _) _)), Lib.hid (below_drewN HB6.out _)⟩
          case measure => simp [intOf]; omega
        · have hge2 : decide (i < k) = false := decide_eq_false hlti
          obtain rfl : i = k := by omega
          clear hlti
          go_wp2_with fail
          refine (HW.out _).mono ?_
          rintro e w8 ⟨rfl, hb8⟩
          have HB8 := Lib.hid (bnext HB6.out hb8)
          clear hb8
          go_wp2_with fail
          go_ret
          exact ⟨rfl, HB8.out⟩
end Go.Proofs.Ytfahpjilgdlhiaa
