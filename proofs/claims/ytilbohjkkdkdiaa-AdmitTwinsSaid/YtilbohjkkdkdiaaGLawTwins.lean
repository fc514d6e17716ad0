/- The walk of AdmitTwins: whatever the two rows of acts, it answers true; no condition. -/
import Derived.Test.YtilbohjkkdkdiaaGLawRuns
namespace Go.Proofs.Ytilbohjkkdkdiaa
open Go.RowKit

/-- The book, its list, the twin, its list. -/
structure T2 (b t : Nat) (w : World) (v m : Value) (f f2 : Nat → Cl) (wr : World) : Prop where
  bb : BK BT wr b f
  bv : Rc wr v (lst f 0 64)
  tb : BK BT wr t f2
  tg : Good f2
  tv : Rc wr m (lst f2 0 64)
  un : Below w.heap.size w wr
theorem T2.below {b t : Nat} {w wr w2 : World} {v m : Value} {f f2 : Nat → Cl} (h : T2 b t w v m f f2 wr) (hb : Below wr.heap.size wr w2) : T2 b t w v m f f2 w2 :=
  ⟨h.bb.below hb, h.bv.below hb, h.tb.below hb, h.tg, h.tv.below hb, bnext h.un hb⟩
theorem T2.turn {b t : Nat} {w wr w2 : World} {v m m2 : Value} {f f2 f3 : Nat → Cl} (h : T2 b t w v m f f2 wr) (hne : b ≠ t) (ht : w.heap.size ≤ t) (hb2 : BK BT w2 t f3) (hg2 : Good f3) (hv2 : Rc w2 m2 (lst f3 0 64)) (hk : Keeps (fun x => x = t) wr w2) : T2 b t w v m2 f f3 w2 :=
  ⟨h.bb.keeps hk hne, rc_turn h.bv h.tb hk, hb2, hg2, hv2, turn_below h.un ht h.un.size hk⟩
theorem T2.set {b t : Nat} {w wr : World} {v m : Value} {f f2 : Nat → Cl} (h : T2 b t w v m f f2 wr) {g : Nat} {cur : Array Value} {fr : Nat × Nat} (hg : wr.heap[g]? = some (.cells cur PT fr)) (hw : w.heap.size ≤ g) (o : Nat) (u : Value) : T2 b t w v m f f2 (wr.setCell ⟨g, o, none⟩ u) := by
  have hk : Keeps (fun x => x = g) wr (wr.setCell ⟨g, o, none⟩ u) := (Keeps.refl _ wr).setCell _ _ (.inl rfl)
  have hn : ∀ (x : Nat) (T : TypeId) (cs : Array Value) (fr' : Nat × Nat), wr.heap[x]? = some (.cells cs T fr') → T ≠ PT → ¬ x = g := by
    intro x T cs fr' hx hT e
    subst e
    have := hx.symm.trans hg
    simp only [Option.some.injEq, Obj.cells.injEq] at this
    exact hT this.2.1
  exact ⟨h.bb.keeps hk (hn _ _ _ _ h.bb (by decide)), h.bv.keeps hk (fun x cs fr' hx => hn _ _ _ _ hx (by decide)), h.tb.keeps hk (hn _ _ _ _ h.tb (by decide)), h.tg, h.tv.keeps hk (fun x cs fr' hx => hn _ _ _ _ hx (by decide)), h.un.setCell hw _⟩
/-- A row of the program's claims, whatever it holds. -/
def OwnP (B : Nat) (w : World) (v : Value) (n : Nat) : Prop := ∃ xs, w.ownsRow B PT 4 v n xs
theorem OwnP.at {B : Nat} {w : World} {g cap n : Nat} (h : OwnP B w (.slice (some ⟨g, 0, none⟩) n cap) n) (o : Nat) (ho : o < n * 4) : (∃ u, w.cell? ⟨g, o, none⟩ = some u) ∧ w.frozen? ⟨g, o, none⟩ = false ∧ B ≤ g ∧ g < w.heap.size ∧ ∃ cur fr, w.heap[g]? = some (.cells cur PT fr) := by
  obtain ⟨xs, h⟩ := h
  obtain ⟨cur, hr, hB, hn, hm, hl, ht⟩ := row_of_own h
  have : o < cur.length := by rw [hl]; exact Nat.lt_of_lt_of_le ho (Nat.mul_le_mul_right 4 hn)
  exact ⟨⟨_, (hr.cell o).trans (List.getElem?_eq_getElem this)⟩, hr.free o, hB, hr.lt, _, _, hr⟩
theorem OwnP.set {B : Nat} {w : World} {g cap n : Nat} (h : OwnP B w (.slice (some ⟨g, 0, none⟩) n cap) n) (o : Nat) (v : Value) : OwnP B (w.setCell ⟨g, o, none⟩ v) (.slice (some ⟨g, 0, none⟩) n cap) n := by
  obtain ⟨xs, h⟩ := h
  obtain ⟨cur, hr, hB, hn, hm, hl, ht⟩ := row_of_own h
  have hr2 : Row PT (w.setCell ⟨g, o, none⟩ v) g (cur.set o v) := by
    unfold Row
    rw [heap_setCell_same _ _ _ _ _ _ hr]
    simp
  exact ⟨xs.set o v, own_of_row hr2 hB hn hm (by simpa using hl) (by rw [List.take_set, ht])⟩

set_option maxHeartbeats 8000000 in
set_option maxRecDepth 100000 in
theorem twins_any (v0 : Value) (l : List (Int × Int × Int)) (v1 : Value) (l2 : List (Int × Int × Int)) (w : World) (h : ActsAt w v0 l) (h2 : ActsAt w v1 l2) : Calls Try.prog 8 #[v0, v1] w fun e w' => e = .returned (.bool true) ∧ Below w.heap.size w w' := by
  have HN := Lib.hid fun w => new_any w
  have HA := Lib.hid h
  have HA2 := Lib.hid h2
  have H1 := Lib.hid (ru_new w)
  obtain ⟨p, cap, rfl, hl, hc⟩ := h
  obtain ⟨p2, cap2, rfl, hl2, hc2⟩ := h2
  clear hc hc2
  go_enter Try.func8, Try.ntmps8
  go_wp2_with fail
  refine (HN.out _).mono ?_
  rintro e w1 ⟨rfl, hw1⟩
  rw [← hw1] at H1
  clear hw1 HN
  go_wp2_with fail
  go_loopw [6, 7] (fun u i wr => ∃ (k : Nat) (f : Nat → Cl), k ≤ l.length ∧ i = .int .i64 k ∧ Hid (RuI w.heap.size w u wr f)) (fun _ i _ => l.length - (intOf i).toNat)
  case atStart => exact ⟨0, _, by omega, rfl, H1⟩
  case round =>
    obtain ⟨k, f, hk, rfl, HE⟩ := hrel
    clear H1
    by_cases hlt : k < l.length
    · have hlt' : (k : Int) < (l.length : Int) := by omega
      have hk0 : (0 : Int) ≤ (k : Int) := by omega
      obtain ⟨b', off, x0, x1, x2, rfl, hlb, q0, q1, q2⟩ := act_at HA.out hlt
      have r0 := (HE.out.2.2.1.cell (p := ⟨b', _, none⟩) hlb).trans q0
      have r1 := (HE.out.2.2.1.cell (p := ⟨b', _, none⟩) hlb).trans q1
      have r2 := (HE.out.2.2.1.cell (p := ⟨b', _, none⟩) hlb).trans q2
      clear q0 q1 q2
      go_wp2_with fail
      refine (do_any _ _ f _ _ _ _ HE.out.1 HE.out.2.1 HE.out.2.2.2).mono ?_
      rintro e w2 ⟨v2, f2, rfl, hb2, hg2, hv2, hk2⟩
      have HE2 := Lib.hid (ru_turn HE.out (Nat.le_refl _) hb2 hg2 hv2 hk2)
      clear hb2 hg2 hv2 hk2 r0 r1 r2
      go_wp2_with fail
      go_roundw
      case rel => exact ⟨k + 1, f2, by omega, by go_num, HE2⟩
      case measure => simp [intOf]; omega
    · have hg3 : decide (k < l.length) = false := decide_eq_false hlt
      have h64 := lst64 f
      clear hlt hk
      go_wp2_with fail
      refine (twin_book w.heap.size f _ HE.out.1).mono ?_
      rintro e w2 ⟨rfl, ht2, hb2⟩
      have hne : w.heap.size < wr.heap.size := HE.out.1.lt
      have HT2 := Lib.hid (show T2 w.heap.size wr.heap.size w u6 u6 f f w2 from ⟨HE.out.1.below hb2, HE.out.2.2.2.below hb2, ht2, HE.out.2.1, HE.out.2.2.2.below hb2, bnext HE.out.2.2.1 hb2⟩)
      have HG := Lib.hid HE.out.2.1
      clear ht2 hb2 HE
      go_wp2_with fail
      refine (list_any _ f _ HT2.out.tb HG.out).mono ?_
      rintro e w3 ⟨v3, rfl, ho3, hb3⟩
      have HT3 := Lib.hid (HT2.out.below hb3)
      have HR3 := Lib.hid (own_rd ho3 (by omega))
      clear ho3 hb3 HT2
      go_wp2_with fail
      refine (same_yes _ _ _ _ HR3.out HT3.out.bv.1 (by omega)).mono ?_
      rintro e w4 ⟨rfl, hb4⟩
      have HT4 := Lib.hid (HT3.out.below hb4)
      clear hb4 HT3 HR3
      generalize wr.heap.size = t at *
      go_wp2_with fail
      go_loopw [11, 12] (fun m i wr => ∃ (k : Nat) (f2 : Nat → Cl), k ≤ l2.length ∧ i = .int .i64 k ∧ Hid (T2 w.heap.size t w u6 m f f2 wr)) (fun _ i _ => l2.length - (intOf i).toNat)
      case atStart => exact ⟨0, _, by omega, rfl, HT4⟩
      case round =>
        obtain ⟨k2, f2, hk2, rfl, HE⟩ := hrel
        clear HT4
        by_cases hlt2 : k2 < l2.length
        · have hlt2' : (k2 : Int) < (l2.length : Int) := by omega
          have hk20 : (0 : Int) ≤ (k2 : Int) := by omega
          obtain ⟨b', off, x0, x1, x2, rfl, hlb, q0, q1, q2⟩ := act_at HA2.out hlt2
          have r0 := (HE.out.un.cell (p := ⟨b', _, none⟩) hlb).trans q0
          have r1 := (HE.out.un.cell (p := ⟨b', _, none⟩) hlb).trans q1
          have r2 := (HE.out.un.cell (p := ⟨b', _, none⟩) hlb).trans q2
          clear q0 q1 q2
          go_wp2_with fail
          refine (do_any _ _ f2 _ _ _ _ HE.out.tb HE.out.tg HE.out.tv).mono ?_
          rintro e w5 ⟨m5, f5, rfl, hb5, hg5, hv5, hk5⟩
          have HE5 := Lib.hid (HE.out.turn (by omega) (by omega) hb5 hg5 hv5 hk5)
          clear hb5 hg5 hv5 hk5 r0 r1 r2
          go_wp2_with fail
          go_roundw
          case rel => exact ⟨k2 + 1, f5, by omega, by go_num, HE5⟩
          case measure => simp [intOf]; omega
        · have hg4 : decide (k2 < l2.length) = false := decide_eq_false hlt2
          have h642 := lst64 f2
          clear hlt2 hk2
          go_wp2_with fail
          refine (list_any _ f _ HE.out.bb HG.out).mono ?_
          rintro e w5 ⟨v5, rfl, ho5, hb5⟩
          have hzw := HE.out.un.size
          have HT5 := Lib.hid (HE.out.below hb5)
          obtain ⟨p5, cap5, rfl, _⟩ := own_small ho5
          have HO5 := Lib.hid (show OwnP w.heap.size w5 (.slice p5 (lst f 0 64).length cap5) (lst f 0 64).length from ⟨_, own_base ho5 hzw⟩)
          clear ho5 hb5 HE
          obtain ⟨n5, hn5⟩ : ∃ n, (lst f 0 64).length = n := ⟨_, rfl⟩
          rw [hn5] at HO5 h64 ⊢
          clear hn5
          go_wp2_with fail
          go_loopw [16] (fun i wr => ∃ k : Nat, k ≤ n5 ∧ i = .int .i64 k ∧ Hid (T2 w.heap.size t w u6 u11 f f2 wr) ∧ Hid (OwnP w.heap.size wr (.slice p5 n5 cap5) n5)) (fun i _ => n5 - (intOf i).toNat)
          case atStart => exact ⟨0, by omega, rfl, HT5, HO5⟩
          case round =>
            obtain ⟨k3, hk3, rfl, HE, HO⟩ := hrel
            clear HT5 HO5
            by_cases hlt3 : k3 < n5
            · have hlt3' : (k3 : Int) < (n5 : Int) := by omega
              have hk30 : (0 : Int) ≤ (k3 : Int) := by omega
              obtain ⟨xs, hox⟩ := HO.out
              obtain ⟨g, cg, e5, _, _⟩ := hox.form (by omega)
              cases e5
              obtain ⟨⟨y0, d0⟩, g0, hBg, hgl, cur, fr, hcur⟩ := HO.out.at (k3 * 4) (by omega)
              obtain ⟨⟨y1, d1⟩, g1, _⟩ := HO.out.at (k3 * 4 + 1) (by omega)
              obtain ⟨⟨y2, d2⟩, g2, _⟩ := HO.out.at (k3 * 4 + 2) (by omega)
              obtain ⟨⟨y3, d3⟩, g3, _⟩ := HO.out.at (k3 * 4 + 3) (by omega)
              have HO1 := HO.out.set (k3 * 4) (.int .i64 9)
              have HO2 := HO1.set (k3 * 4 + 1) (.int .i64 0)
              have HO3 := HO2.set (k3 * 4 + 2) (.int .i64 0)
              have HO4 := Lib.hid (HO3.set (k3 * 4 + 3) (.bool false))
              obtain ⟨_, _, _, _, cu1, fr1, hc1⟩ := HO1.at (k3 * 4) (by omega)
              obtain ⟨_, _, _, _, cu2, fr2, hc2⟩ := HO2.at (k3 * 4) (by omega)
              obtain ⟨_, _, _, _, cu3, fr3, hc3⟩ := HO3.at (k3 * 4) (by omega)
              have HE4 := Lib.hid ((((HE.out.set hcur hBg (k3 * 4) (.int .i64 9)).set hc1 hBg (k3 * 4 + 1) (.int .i64 0)).set hc2 hBg (k3 * 4 + 2) (.int .i64 0)).set hc3 hBg (k3 * 4 + 3) (.bool false))
              clear hox HO1 HO2 HO3 hc1 hc2 hc3 hcur HE HO
              go_wp2_with fail
              go_roundw
              case rel => exact ⟨k3 + 1, by omega, by go_num, HE4, HO4⟩
              case measure => simp [intOf]; omega
            · have hg5 : decide (k3 < n5) = false := decide_eq_false hlt3
              clear hlt3 hk3 HO
              go_wp2_with fail
              refine (list_any _ f _ HE.out.bb HG.out).mono ?_
              rintro e w6 ⟨v6, rfl, ho6, hb6⟩
              have HT6 := Lib.hid (HE.out.below hb6)
              have HR6 := Lib.hid (own_rd ho6 (by have := lst64 f; omega))
              clear ho6 hb6 HE
              go_wp2_with fail
              refine (same_yes _ _ _ _ HR6.out HT6.out.bv.1 (by have := lst64 f; omega)).mono ?_
              rintro e w7 ⟨rfl, hb7⟩
              have HT7 := Lib.hid (HT6.out.below hb7)
              clear hb7 HT6 HR6
              go_wp2_with fail
              refine (list_any _ f2 _ HT7.out.tb HT7.out.tg).mono ?_
              rintro e w8 ⟨v8, rfl, ho8, hb8⟩
              have HT8 := Lib.hid (HT7.out.below hb8)
              have HR8 := Lib.hid (own_rd ho8 (by omega))
              clear ho8 hb8 HT7
              go_wp2_with fail
              refine (same_yes _ _ _ _ HR8.out HT8.out.tv.1 (by omega)).mono ?_
              rintro e w9 ⟨rfl, hb9⟩
              have HW9 := Lib.hid (HT8.out.below hb9).un
              clear hb9 HT8 HR8
              go_wp2_with fail
              refine (works_any _).mono ?_
              rintro e w10 ⟨rfl, hb10⟩
              have HB10 := Lib.hid (bnext HW9.out hb10)
              clear hb10
              go_wp2_with fail
              go_ret
              exact ⟨rfl, HB10.out⟩
end Go.Proofs.Ytilbohjkkdkdiaa
