/- The law LedgerPlays, walked for every root and every list of acts: it answers true; no condition but that the listed variable holds what the program's text lays in it. -/
import Derived.Test.YtdbfjcdglcagaaaDoorPAlike
import Derived.Test.YtdbfjcdglcagaaaDoorPLoadOp
namespace Go.Proofs.YtdbfjcdglcagaaaDoor
open Go.RowKit Bk

/-- The book behind i acts. -/
noncomputable def playL (L : List Ln) (T : Nat → Oy) : Nat → List Ln
  | 0 => L
  | i + 1 => stepB (playL L T i) (T i)
theorem play_len (L : List Ln) (T : Nat → Oy) : ∀ i, (playL L T i).length ≤ L.length + i
  | 0 => Nat.le_refl _
  | i + 1 => by
    have := play_len L T i
    have h2 := step_len (playL L T i) (T i)
    show (stepB (playL L T i) (T i)).length ≤ _
    omega
set_option maxHeartbeats 2000000 in
set_option maxRecDepth 100000 in
theorem plays_zero (u : Value) (w : World) :
    Calls Tryd.prog 3 #[.int .i64 0, u] w fun e w' => e = .returned (.bool true) ∧ Below w.heap.size w w' := by
  have HN := Lib.hid (pnew0 w)
  have HS := Lib.hid sure_any
  go_enter Tryd.func3, Tryd.ntmps3
  go_wp2_with fail
  refine HN.out.mono ?_
  rintro e w1 ⟨rfl, rfl⟩
  go_wp2_with fail
  refine (HS.out _).mono ?_
  rintro e w1 ⟨rfl, hb1⟩
  have HB1 := Lib.hid hb1
  go_wp2_with fail
  go_ret
  exact ⟨rfl, HB1.out⟩
set_option maxHeartbeats 2000000 in
set_option maxRecDepth 100000 in
theorem plays_some (root : Int) (u : Value) (n : Nat) (T : Nat → Oy) (w : World) (hg : LaidAt w) (hr : I64 root) (hu : OpsIn w u n T) (h0 : root ≠ 0) :
    Calls Tryd.prog 3 #[.int .i64 root, u] w fun e w' => e = .returned (.bool true) ∧ Below w.heap.size w w' := by
  have HN := Lib.hid (pnew w root hr h0)
  have HS := Lib.hid sure_any
  have HU := Lib.hid (fun W (hb : Below w.heap.size w W) => hu.below hb)
  have HG := Lib.hid hg
  have HI := Lib.hid (iv_new hr h0)
  have z0 : (root == 0) = false := by simpa using h0
  obtain ⟨p, cap, rfl, hn, hc⟩ := hu
  clear hc hg hr h0
  go_enter Tryd.func3, Tryd.ntmps3
  go_wp2_with fail
  refine HN.out.mono ?_
  rintro e w1 ⟨b, mb, rfl, hbk, hb1, hm1, hw1⟩
  have HB1 := Lib.hid hw1
  have HBK := Lib.hid hbk
  clear hbk hw1
  go_wp2_with fail
  refine (rnew _ root).mono ?_
  rintro e w2 ⟨v, rfl, hv, hb2⟩
  have HB2 := Lib.hid (bnext HB1.out hb2)
  have HBO := Lib.hid (show Both w2 b mb v [⟨root, 0, z6, z6⟩] from ⟨HBK.out.below hb2, hv, HI.out, HG.out.below (bnext HB1.out hb2)⟩)
  clear hb2 hv
  generalize hL0 : [(⟨root, 0, z6, z6⟩ : Ln)] = L0 at HBO
  have hlen : L0.length = 1 := by rw [← hL0]; rfl
  clear hL0
  go_wp2_with fail
  go_loopw [6, 7] (fun rv iv wr => ∃ i : Nat, iv = .int .i64 i ∧ i ≤ n ∧ i ≤ 200 ∧ Hid (Both wr b mb rv (playL L0 T i)) ∧ Hid (Below w.heap.size w wr)) (fun _ iv _ => n - (intOf iv).toNat)
  case atStart => exact ⟨0, rfl, Nat.zero_le _, by omega, HBO, HB2⟩
  case round =>
    obtain ⟨i, rfl, hi, hi2, HO, HB⟩ := hrel
    clear HBO HB2
    have hpl := play_len L0 T i
    have HEX := Lib.hid (alike_any wr b mb _ _ HO.out (by omega))
    by_cases hin : i < n
    · by_cases hi3 : i < 200
      · have hin' : (i : Int) < (n : Int) := by omega
        have hi3' : (i : Int) < 200 := by omega
        obtain ⟨p', cap', e', _, hcc⟩ := HU.out wr HB.out
        cases e'
        obtain ⟨⟨g, off, rfl, c0, c1, c2, c3, c4, c5, c6, c7, c8, c9, c10, c11, c12, c13, c14, c15, c16, c17⟩, hok⟩ := hcc i hin
        clear hcc
        have HOK := Lib.hid hok
        have HST := Lib.hid (step_any wr b mb _ (playL L0 T i) HO.out (by omega) (T i) hok)
        have HIV := Lib.hid (iv_step HO.out.iv hok)
        have hl2 := play_len L0 T (i + 1)
        have HPL := Lib.hid (show playL L0 T (i + 1) = stepB (playL L0 T i) (T i) from rfl)
        rw [HPL.out] at hl2
        generalize stepB (playL L0 T i) (T i) = L' at HST HPL hl2 HIV
        generalize hoe : T i = o at HOK HST c0 c1 c2 c3 c4 c5 c6 c7 c8 c9 c10 c11 c12 c13 c14 c15 c16 c17
        have HOE := Lib.hid hoe
        clear hok HEX hoe
        iterate 53 go_step
        refine wp_load_op (.tmp 50) rfl g (off + i * 18) rfl o ⟨c0, c1, c2, c3, c4, c5, c6, c7, c8, c9, c10, c11, c12, c13, c14, c15, c16, c17⟩ ?_
        go_wp2_with fail
        refine HST.out.mono ?_
        rintro e w3 ⟨v3, rfl, hB3, hk3⟩
        have HB3 := Lib.hid (below_keeps HB.out hk3 (fun x e => by rw [e]; exact hm1))
        have HO3 := Lib.hid hB3
        clear hB3 hk3 c0 c1 c2 c3 c4 c5 c6 c7 c8 c9 c10 c11 c12 c13 c14 c15 c16 c17
        obtain ⟨p', cap', e', _, hcc⟩ := HU.out w3 HB3.out
        cases e'
        obtain ⟨⟨g', off', e', c0, c1, c2, c3, c4, c5, c6, c7, c8, c9, c10, c11, c12, c13, c14, c15, c16, c17⟩, hok⟩ := hcc i hin
        cases e'
        clear hcc hok
        rw [HOE.out] at c0 c1 c2 c3 c4 c5 c6 c7 c8 c9 c10 c11 c12 c13 c14 c15 c16 c17
        have HPO := Lib.hid (pof w3 b mb L' HO3.out.pb o.h HOK.out.2.2.2.1)
        have HRO := Lib.hid (fun W (hb : Below w3.heap.size w3 W) => rof15 W v3 L' (HO3.out.rb.below hb) (by omega) o.h)
        have HNU := Lib.hid (fun W (hb : Below w3.heap.size w3 W) => num_errV (ofE L' o.h) W (HO3.out.laid.below hb))
        have HPE := Lib.hid (fun W (hb : Below w3.heap.size w3 W) => peven W b mb L' (HO3.out.pb.below hb) (by omega) HO3.out.iv.inv.nd HO3.out.iv.inv.wf)
        have HRE := Lib.hid (fun W (hb : Below w3.heap.size w3 W) => reven W v3 L' (HO3.out.rb.below hb) (by omega))
        generalize ofA L' o.h = A at HPO HRO
        generalize ofC L' o.h = C at HPO HRO
        generalize ofE L' o.h = en at HPO HRO HNU
        generalize evenB L' = ev at HPE HRE
        generalize o.h = hh at c1 HPO HRO
        go_wp2_with fail
        refine HPO.out.mono ?_
        rintro e w4 ⟨rfl, hb4⟩
        generalize errV en = er at HNU ⊢
        obtain ⟨W5, hW5⟩ : ∃ W5, W5 = (w4.alloc (.cells #[.int .i64 A.g, .int .i64 A.o, .int .i64 A.l, .int .i64 A.d, .int .i64 A.c, .int .i64 A.t] 34)).alloc (.cells #[.int .i64 C.g, .int .i64 C.o, .int .i64 C.l, .int .i64 C.d, .int .i64 C.c, .int .i64 C.t] 34) := ⟨_, rfl⟩
        have HB5 := Lib.hid (show Below w3.heap.size w3 W5 from by rw [hW5]; exact below_alloc (below_alloc hb4 _) _)
        have HA5 := Lib.hid (show Has W5 w4.heap.size (.cells #[.int .i64 A.g, .int .i64 A.o, .int .i64 A.l, .int .i64 A.d, .int .i64 A.c, .int .i64 A.t] 34) from by rw [hW5]; exact has_old (has_new _ _ _ rfl) _)
        have HC5 := Lib.hid (show Has W5 (w4.heap.size + 1) (.cells #[.int .i64 C.g, .int .i64 C.o, .int .i64 C.l, .int .i64 C.d, .int .i64 C.c, .int .i64 C.t] 34) from by rw [hW5]; exact has_new _ _ _ (by simp))
        have q1 := (HB5.out.cell (p := ⟨g, off + i * 18 + 1, none⟩) (cell_lt c1)).trans c1
        have HW5 := Lib.hid hW5
        have q1b := q1
        rw [hW5] at q1b
        clear hW5 hb4 c0 c1 c2 c3 c4 c5 c6 c7 c8 c9 c10 c11 c12 c13 c14 c15 c16 c17
        go_wp2_with fail
        rw [← HW5.out]
        go_wp2_with fail
        refine (HRO.out _ HB5.out).mono ?_
        rintro e w6 ⟨rfl, hb6⟩
        obtain ⟨W7, hW7⟩ : ∃ W7, W7 = (w6.alloc (.cells #[.int .i64 A.g, .int .i64 A.o, .int .i64 A.l, .int .i64 A.d, .int .i64 A.c, .int .i64 A.t] 34)).alloc (.cells #[.int .i64 C.g, .int .i64 C.o, .int .i64 C.l, .int .i64 C.d, .int .i64 C.c, .int .i64 C.t] 34) := ⟨_, rfl⟩
        have HB7 := Lib.hid (show Below w3.heap.size w3 W7 from by rw [hW7]; exact below_alloc (below_alloc (bnext HB5.out hb6) _) _)
        have HW7 := Lib.hid (bnext HB3.out HB7.out)
        obtain ⟨a0, a1, a2, a3, a4, a5⟩ := acc6 (show Has W7 w4.heap.size (.cells #[.int .i64 A.g, .int .i64 A.o, .int .i64 A.l, .int .i64 A.d, .int .i64 A.c, .int .i64 A.t] 34) from by rw [hW7]; exact has_old (has_old (has_below HA5.out hb6) _) _)
        obtain ⟨c0, c1, c2, c3, c4, c5⟩ := acc6 (show Has W7 (w4.heap.size + 1) (.cells #[.int .i64 C.g, .int .i64 C.o, .int .i64 C.l, .int .i64 C.d, .int .i64 C.c, .int .i64 C.t] 34) from by rw [hW7]; exact has_old (has_old (has_below HC5.out hb6) _) _)
        obtain ⟨y0, y1, y2, y3, y4, y5⟩ := acc6 (show Has W7 w6.heap.size (.cells #[.int .i64 A.g, .int .i64 A.o, .int .i64 A.l, .int .i64 A.d, .int .i64 A.c, .int .i64 A.t] 34) from by rw [hW7]; exact has_old (has_new _ _ _ rfl) _)
        obtain ⟨z0', z1, z2, z3, z4, z5⟩ := acc6 (show Has W7 (w6.heap.size + 1) (.cells #[.int .i64 C.g, .int .i64 C.o, .int .i64 C.l, .int .i64 C.d, .int .i64 C.c, .int .i64 C.t] 34) from by rw [hW7]; exact has_new _ _ _ (by simp))
        clear hb6 HA5 HC5 q1b
        subst hW7
        go_wp2_with fail
        refine (HNU.out _ HB7.out).mono ?_
        rintro e w8 ⟨rfl, hb8⟩
        have HB8 := Lib.hid (bnext HB7.out hb8)
        clear hb8 a0 a1 a2 a3 a4 a5 c0 c1 c2 c3 c4 c5 y0 y1 y2 y3 y4 y5 z0' z1 z2 z3 z4 z5
        go_wp2_with fail
        refine (HPE.out _ HB8.out).mono ?_
        rintro e w9 ⟨rfl, hb9⟩
        have HB9 := Lib.hid (bnext HB8.out hb9)
        clear hb9
        go_wp2_with fail
        refine (HRE.out _ HB9.out).mono ?_
        rintro e w10 ⟨rfl, hb10⟩
        have HB10 := Lib.hid (bnext HB9.out hb10)
        clear hb10
        go_wp2_with fail
        go_roundw
        case rel => exact ⟨i + 1, by go_num, by omega, by omega, Lib.hid (by rw [HPL.out]; exact HO3.out.below HB10.out), Lib.hid (bnext HB3.out HB10.out)⟩
        case measure => simp [intOf]; omega
      · have hi3' : ¬ (i : Int) < 200 := by omega
        have hin' : (i : Int) < (n : Int) := by omega
        go_wp2_with fail
        refine HEX.out.mono ?_
        rintro e w8 ⟨rfl, hb8⟩
        have HB8 := Lib.hid (bnext HB.out hb8)
        clear hb8
        go_wp2_with fail
        refine (HS.out _).mono ?_
        rintro e w9 ⟨rfl, hb9⟩
        have HB9 := Lib.hid (bnext HB8.out hb9)
        clear hb9
        go_wp2_with fail
        go_ret
        exact ⟨rfl, HB9.out⟩
    · have hin' : ¬ (i : Int) < (n : Int) := by omega
      go_wp2_with fail
      refine HEX.out.mono ?_
      rintro e w8 ⟨rfl, hb8⟩
      have HB8 := Lib.hid (bnext HB.out hb8)
      clear hb8
      go_wp2_with fail
      refine (HS.out _).mono ?_
      rintro e w9 ⟨rfl, hb9⟩
      have HB9 := Lib.hid (bnext HB8.out hb9)
      clear hb9
      go_wp2_with fail
      go_ret
      exact ⟨rfl, HB9.out⟩
set_option maxHeartbeats 2000000 in
theorem plays_any (root : Int) (u : Value) (n : Nat) (T : Nat → Oy) (w : World) (hg : LaidAt w) (hr : I64 root) (hu : OpsIn w u n T) :
    Calls Tryd.prog 3 #[.int .i64 root, u] w fun e w' => e = .returned (.bool true) ∧ Below w.heap.size w w' := by
  by_cases h0 : root = 0
  · subst h0; exact plays_zero u w
  · exact plays_some root u n T w hg hr hu h0
end Go.Proofs.YtdbfjcdglcagaaaDoor
