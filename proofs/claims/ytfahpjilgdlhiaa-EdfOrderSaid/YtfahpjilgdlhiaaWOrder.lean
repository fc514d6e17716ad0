/- The program's Order: the places that have a budget, in their order; no condition but that the children are at most 2^47 bytes. -/
import Derived.Test.YtfahpjilgdlhiaaWSort
import Derived.Test.YtfahpjilgdlhiaaWThree
import Derived.Test.YtfahpjilgdlhiaaWDem
import Derived.Test.YtfahpjilgdlhiaaWMissP
namespace Go.Proofs.Ytfahpjilgdlhiaa
open Go.RowKit Go.Sort Edf

def OrdPost (w : World) (L : List Nat) (e : Ending) (w' : World) : Prop := ∃ v, e = .returned v ∧ NumsO w.heap.size w' v L.length (fnL L) ∧ Below w.heap.size w w'
theorem num_snoc (L : List Nat) (x : Nat) : numL (fnL L) L.length ++ [Value.int .i64 (x : Nat)] = numL (fnL (L ++ [x])) (L ++ [x]).length := by
  rw [numL_fn, numL_fn, List.map_append]; rfl
set_option maxHeartbeats 4000000 in
set_option maxRecDepth 100000 in
theorem order_any (w : World) (v : Value) (n : Nat) (c : Nat → Tri) (h : Tris w v n c) (hn : n * 24 ≤ 140737488355328) : Calls Try.prog 15 #[v] w (OrdPost w (ordL c n)) := by
  have HV := Lib.hid (fun W (hb : Below w.heap.size w W) => h.below hb)
  obtain ⟨p1, cap1, rfl, hm, _⟩ := h
  have HC := Lib.hid (fun w => comparing_any w (.slice p1 n cap1) ⟨_, _, _, rfl⟩)
  go_enter Try.func15, Try.ntmps15
  go_wp2_with fail
  go_loopw [3, 8] (fun pv iv wr => ∃ (i : Nat), i ≤ n ∧ iv = .int .i64 i ∧ Hid (NumsO w.heap.size wr pv (plcs c i).length (fnL (plcs c i))) ∧ Hid (Below w.heap.size w wr)) (fun _ iv _ => n - (intOf iv).toNat)
  case atStart => exact ⟨0, Nat.zero_le _, rfl, Lib.hid (nil_nums _ _ _), Lib.hid (Below.refl _ _)⟩
  case round =>
    obtain ⟨i, hin, rfl, HO, HB⟩ := hrel
    by_cases hlti : i < n
    · have hli' : (i : Int) < (n : Int) := by omega
      have i00 : (0 : Int) ≤ (i : Int) := by omega
      obtain ⟨_, _, hsl, _, hcs⟩ := HV.out wr HB.out
      injection hsl with hs1 hs2 hs3
      subst hs1 hs3
      obtain ⟨b1, off, rfl, c0, c1, c2⟩ := hcs i hlti
      clear hcs hs2
      have hpl : (plcs c i).length ≤ i := plcs_len i
      obtain ⟨pp, pc, hpv, _⟩ := own_small HO.out
      subst hpv
      by_cases hl : 0 < (c i).b
      · have HP := Lib.hid (show plcs c (i + 1) = plcs c i ++ [i] from if_pos hl)
        have HO0 := Lib.hid (own_under (own_under HO.out ((Below.refl wr.heap.size wr).alloc (Nat.le_refl _) (.cells #[.int .i64 (c i).a, .int .i64 (c i).b, .int .i64 (c i).c] 25))) ((Below.refl _ _).alloc (Nat.le_refl _) (.cells #[.int .i64 (i : Nat)] 3)))
        have HB0 := Lib.hid (below_alloc (below_alloc HB.out (.cells #[.int .i64 (c i).a, .int .i64 (c i).b, .int .i64 (c i).c] 25)) (.cells #[.int .i64 (i : Nat)] 3))
        generalize (c i).a = xa at *
        generalize (c i).b = xb at *
        generalize (c i).c = xc at *
        generalize plcs c i = P at *
        go_upto_region 6 with fail
        generalize hW0 : wr.alloc (.cells #[.int .i64 xa, .int .i64 xb, .int .i64 xc] 25) = W0 at *
        clear c0 c1 c2 hW0 HO HB
        go_wp2_with (at_builtin; refine wpList_append_ints rfl _ _ rfl w.heap.size _ P.length (numL (fnL P) P.length) rfl HO0.out _ 1 [.int .i64 (i : Nat)] rfl (src_one W0 (i : Nat) 3) (by intro u hu; simp at hu; subst hu; rfl) (by omega) HB0.out.size ?_)
        intro pd cd w6 hown hgrow hat
        have HO6 := Lib.hid (show NumsO w.heap.size w6 (.slice pd (P.length + 1) cd) (plcs c (i + 1)).length (fnL (plcs c (i + 1))) from by
          rw [HP.out]
          show w6.ownsRow _ _ 1 _ (P ++ [i]).length (numL (fnL (P ++ [i])) (P ++ [i]).length)
          rw [← num_snoc, List.length_append]
          exact hown)
        have HB6 := Lib.hid (HB0.out.grown hgrow HB0.out.size (fun b e => (World.ownsRow.lt HO0.out b e).1))
        clear hown hgrow hat
        go_wp2_with fail
        go_roundw
        case rel => exact ⟨i + 1, by omega, by go_num, HO6, HB6⟩
        case measure => simp [intOf]; omega
      · have HP := Lib.hid (show plcs c (i + 1) = plcs c i from if_neg hl)
        have HO0 := Lib.hid (own_under HO.out ((Below.refl wr.heap.size wr).alloc (Nat.le_refl _) (.cells #[.int .i64 (c i).a, .int .i64 (c i).b, .int .i64 (c i).c] 25)))
        have HB0 := Lib.hid (below_alloc HB.out (.cells #[.int .i64 (c i).a, .int .i64 (c i).b, .int .i64 (c i).c] 25))
        generalize (c i).a = xa at *
        generalize (c i).b = xb at *
        generalize (c i).c = xc at *
        clear HO
        go_wp2_with fail
        go_roundw
        case rel => exact ⟨i + 1, by omega, by go_num, Lib.hid (by rw [HP.out]; exact HO0.out), HB0⟩
        case measure => simp [intOf]; omega
    · have hge : decide (i < n) = false := decide_eq_false hlti
      obtain rfl : i = n := by omega
      clear hlti
      obtain ⟨pp, pc, hpv, _⟩ := own_small HO.out
      subst hpv
      have hpl : (plcs c i).length ≤ i := plcs_len i
      go_wp2_with fail
      refine (HC.out _).mono ?_
      rintro e w1 ⟨rfl, hw1⟩
      have HB1 := Lib.hid (show Below wr.heap.size wr w1 by rw [hw1]; exact (Below.refl _ _).alloc (Nat.le_refl _) _)
      have hbx : Boxed w1 wr.heap.size (.slice p1 i cap1) := by
        rw [hw1]; exact has_cell (has_new wr (.cells #[.slice p1 i cap1] 23) _ rfl) 0
      have hbl : wr.heap.size < w1.heap.size := by rw [hw1]; simp
      have HO1 := Lib.hid (own_under HO.out HB1.out)
      have HBW := Lib.hid (bnext HB.out HB1.out)
      clear hw1
      by_cases h0 : (plcs c i).length = 0
      · have hz : plcs c i = [] := List.eq_nil_of_length_eq_zero h0
        have hz2 : ordL c i = [] := List.eq_nil_of_length_eq_zero (by rw [(ordL_perm (c := c) i).length_eq, h0])
        have HS := Lib.hid (fun W => AnyF.slices_SortFunc_none (P := Try.prog) (ρ := Try.laysSort_ren) { Try.laysSort with } pp pc (cmpF wr.heap.size) W)
        rw [hz] at HO1
        rw [hz]
        go_wp2_with fail
        refine (HS.out _).mono ?_
        rintro e w2 ⟨rfl, rfl⟩
        go_wp2_with fail
        go_ret
        exact ⟨_, rfl, by rw [hz2]; exact HO1.out, HBW.out⟩
      · obtain ⟨g, cap, hgv, _, hgB, hgl⟩ := own_block2 HO.out (by omega)
        cases hgv
        cases i with
        | zero => simp [plcs] at h0
        | succ N =>
          have HS := Lib.hid (sort_any w w1 (.slice p1 (N + 1) cap1) N c wr.heap.size g pc (plcs c (N + 1)) (ordL c (N + 1)) HBW.out (HV.out w (Below.refl _ _)) hbx hbl (by omega) HO1.out (fun x hx => (plcs_mem.1 hx).1) (by omega) (ordL_perm _) (ordL_sorted _))
          have HL := Lib.hid (ordL_perm (c := c) (N + 1)).length_eq
          go_wp2_with fail
          refine HS.out.mono ?_
          rintro e w2 ⟨rfl, ho2, hb2⟩
          have HO2 := Lib.hid ho2
          have HB2 := Lib.hid hb2
          clear ho2 hb2
          go_wp2_with fail
          go_ret
          refine ⟨_, rfl, ?_, HB2.out⟩
          have e := HO2.out
          unfold NumsO at e ⊢
          rw [HL.out] at e ⊢
          exact e
end Go.Proofs.Ytfahpjilgdlhiaa
