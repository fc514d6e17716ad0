/- The document's own New of a table; no condition but those that each row names. -/
import Derived.Test.YtlcdbblbepndoaaDoorVRAdd
import Derived.Test.YtlcdbblbepndoaaDoorSKeep
import Derived.Deep.OwnRows
import Derived.Laws.CopyOwn
namespace Go.Proofs.YtlcdbblbepndoaaDoor
open Go.RowKit

set_option maxHeartbeats 2000000 in
set_option maxRecDepth 100000 in
theorem rnew_no (kind many : Int) (w : World) (h : ¬ (1 ≤ kind ∧ kind ≤ 3 ∧ 1 ≤ many ∧ many ≤ 4096)) :
    Calls Tryd.prog 19 #[.int .i64 kind, .int .i64 many] w fun e w' => e = .returned (.tuple #[rv 0 (.slice none 0 0) (.slice none 0 0) (.slice none 0 0), .int .i64 1]) ∧ Below w.heap.size w w' := by
  by_cases hk : 1 ≤ kind ∧ kind ≤ 3
  · have HK := Lib.hid (fun w => rkind_yes kind w hk.1 hk.2)
    by_cases h1 : many < 1
    · clear h hk
      go_enter Tryd.func19, Tryd.ntmps19
      go_wp2_with fail
      refine (HK.out _).mono ?_
      rintro e w1 ⟨rfl, rfl⟩
      go_wp2_with fail
      refine bodyPost_ret (v := .tuple #[rv 0 (.slice none 0 0) (.slice none 0 0) (.slice none 0 0), .int .i64 1]) ?r1 rfl ?_
      case r1 => simp [results, Tryd.results19, go_sem]
      exact ⟨rfl, (Below.refl _ _).alloc (Nat.le_refl _) _⟩
    · have h2 : 4096 < many := by omega
      clear h hk
      go_enter Tryd.func19, Tryd.ntmps19
      go_wp2_with fail
      refine (HK.out _).mono ?_
      rintro e w1 ⟨rfl, rfl⟩
      go_wp2_with fail
      refine bodyPost_ret (v := .tuple #[rv 0 (.slice none 0 0) (.slice none 0 0) (.slice none 0 0), .int .i64 1]) ?r1 rfl ?_
      case r1 => simp [results, Tryd.results19, go_sem]
      exact ⟨rfl, (Below.refl _ _).alloc (Nat.le_refl _) _⟩
  · have HK := Lib.hid (fun w => rkind_no kind w hk)
    clear h hk
    go_enter Tryd.func19, Tryd.ntmps19
    go_wp2_with fail
    refine (HK.out _).mono ?_
    rintro e w1 ⟨rfl, rfl⟩
    go_wp2_with fail
    refine bodyPost_ret (v := .tuple #[rv 0 (.slice none 0 0) (.slice none 0 0) (.slice none 0 0), .int .i64 1]) ?r1 rfl ?_
    case r1 => simp [results, Tryd.results19, go_sem]
    exact ⟨rfl, (Below.refl _ _).alloc (Nat.le_refl _) _⟩

/-- What New answers, its rows of their own. -/
def NewOwn (w : World) (kind : Int) (n : Nat) (e : Ending) (w' : World) : Prop :=
  ∃ g1 c1 g2 c2 g3 c3, e = .returned (.tuple #[rv kind (.slice (some ⟨g1, 0, none⟩) n c1) (.slice (some ⟨g2, 0, none⟩) n c2) (.slice (some ⟨g3, 0, none⟩) n c3), .int .i64 0]) ∧ Own3 w.heap.size w' (Tab.new kind n) g1 c1 g2 c2 g3 c3 ∧ Below w.heap.size w w'
/-- The document's New behind its first statement. -/
def NewCut (w : World) (kind : Int) (n : Nat) (s6 : Value) (wx : World) : Prop :=
  ∃ b g2 g3, s6 = .pointer (some ⟨b, 0, none⟩) ∧ Has wx b (.cells #[.int .i64 kind, .slice none 0 0, .slice (some ⟨g2, 0, none⟩) n n, .slice (some ⟨g3, 0, none⟩) n n] 28) ∧ Has wx g2 (.cells (madeCells #[.bool false] n) 4) ∧ Has wx g3 (.cells (madeCells #[.int .i64 0] n) 3) ∧
    g2 ≠ g3 ∧ b ≠ g2 ∧ b ≠ g3 ∧ w.heap.size + 1 ≤ b ∧ w.heap.size + 1 ≤ g2 ∧ w.heap.size + 1 ≤ g3 ∧ Below (w.heap.size + 1) (w.alloc (.cells #[.int .i64 0, .slice none 0 0, .slice none 0 0, .slice none 0 0] 28)) wx
theorem newCut_mk {w : World} {kind : Int} {n b g2 g3 : Nat} {wx : World} (h1 : Has wx b (.cells #[.int .i64 kind, .slice none 0 0, .slice (some ⟨g2, 0, none⟩) n n, .slice (some ⟨g3, 0, none⟩) n n] 28)) (h2 : Has wx g2 (.cells (madeCells #[.bool false] n) 4)) (h3 : Has wx g3 (.cells (madeCells #[.int .i64 0] n) 3))
    (n1 : g2 ≠ g3) (n2 : b ≠ g2) (n3 : b ≠ g3) (l1 : w.heap.size + 1 ≤ b) (l2 : w.heap.size + 1 ≤ g2) (l3 : w.heap.size + 1 ≤ g3) (hb : Below (w.heap.size + 1) (w.alloc (.cells #[.int .i64 0, .slice none 0 0, .slice none 0 0, .slice none 0 0] 28)) wx) : NewCut w kind n (.pointer (some ⟨b, 0, none⟩)) wx :=
  ⟨b, g2, g3, rfl, h1, h2, h3, n1, n2, n3, l1, l2, l3, hb⟩

set_option maxHeartbeats 4000000 in
set_option maxRecDepth 100000 in
theorem rnew_own (kind : Int) (n : Nat) (w : World) (k1 : 1 ≤ kind) (k3 : kind ≤ 3) (n1 : 1 ≤ n) (n4 : n ≤ 4096) :
    Calls Tryd.prog 19 #[.int .i64 kind, .int .i64 n] w (NewOwn w kind n) := by
  obtain ⟨i0, hi, hz0, hz1, hz2⟩ := info_parts Tryd.info3
  have HK := Lib.hid (fun w => rkind_yes kind w k1 k3)
  have hmk1 := fun w => run_make_row' (P := Tryd.prog) 25 3 (.int .i64 0) 8 Tryd.underlying25 Tryd.info3 rfl .i64 .i64 n (by omega) (by omega) w
  have hmk2 := fun w => run_make_row' (P := Tryd.prog) 26 4 (.bool false) 1 Tryd.underlying26 Tryd.info4 rfl .i64 .i64 n (by omega) (by omega) w
  have z1 : (1 : Int) ≤ (n : Int) := by omega
  have z2 : (n : Int) ≤ 4096 := by omega
  go_enter Tryd.func19, Tryd.ntmps19
  go_wp2_with fail
  refine (HK.out _).mono ?_
  rintro e w1 ⟨rfl, rfl⟩
  go_upto_region 3 with fail
  go_cut [6] (fun s6 wx => NewCut w kind n s6 wx)
  case first =>
    go_region
    all_goals
      go_wp2_with fail
      go_meet
      refine' newCut_mk (has_drew ?_) (has_drew ?_) (has_drew ?_) ?_ ?_ ?_ ?_ ?_ ?_ (below_drew ?_)
      · repeat (first | exact has_new _ _ _ (by first | rfl | (simp; done)) | refine has_old ?_ _)
      · repeat (first | exact has_new _ _ _ (by first | rfl | (simp; done)) | refine has_old ?_ _)
      · repeat (first | exact has_new _ _ _ (by first | rfl | (simp; done)) | refine has_old ?_ _)
      any_goals omega
      exact (((Below.refl _ _).alloc (by first | (simp; done) | (simp; omega)) _).alloc (by first | (simp; done) | (simp; omega)) _).alloc (by first | (simp; done) | (simp; omega)) _
  case rest =>
    obtain ⟨b, g2, g3, rfl, hb1, hb2, hb3, n23, nb2, nb3, l1, l2, l3, hbw⟩ := hcut
    have hbl := has_lt hb1
    have q0 := has_cell hb1 0
    have q1 := has_cell hb1 1
    have q2 := has_cell hb1 2
    have q3 := has_cell hb1 3
    have qf := has_free hb1
    simp only [List.getElem?_toArray, List.getElem?_cons_zero, List.getElem?_cons_succ] at q0 q1 q2 q3
    have O2 := Lib.hid (own_has (B := w.heap.size + 1) hb2 l2 n4)
    have O3 := Lib.hid (own_has (B := w.heap.size + 1) hb3 l3 n4)
    have l4 := has_lt hb2
    have l5 := has_lt hb3
    have HBW := Lib.hid hbw
    clear hb1 hb2 hb3 hbw
    go_wp2_with fail
    go_loopw [7] (fun i wr => ∃ k x, k ≤ n ∧ i = .int .i64 (k : Nat) ∧ wr.cell? ⟨b, 1, none⟩ = some x ∧ wr.cell? ⟨b, 0, none⟩ = some (.int .i64 kind) ∧ wr.cell? ⟨b, 2, none⟩ = some (.slice (some ⟨g2, 0, none⟩) n n) ∧ wr.cell? ⟨b, 3, none⟩ = some (.slice (some ⟨g3, 0, none⟩) n n) ∧
      (∀ j, wr.frozen? ⟨b, j, none⟩ = false) ∧ Hid (wr.ownsRow wc.heap.size 3 1 x k (ints (List.replicate k 1))) ∧ Hid (Keeps (fun y => y = b) wc wr)) (fun i _ => n - (intOf i).toNat)
    case atStart => exact ⟨0, _, Nat.zero_le _, rfl, q1, q0, q2, q3, qf, Lib.hid (World.ownsRow_nil _ _ _ _), Lib.hid (Keeps.refl _ _)⟩
    case round =>
      obtain ⟨k, x, hk, rfl, c1, c0, c2, c3, cf, HX, HKP⟩ := hrel
      clear q0 q1 q2 q3 qf
      have hsz := HKP.out.size
      by_cases hlt : k < n
      · obtain ⟨px, cx, hx⟩ := own_shape HX.out (by simp [ints])
        subst hx
        go_wp2_with (at_builtin; refine wpList_append_own _ rfl _ _ 25 rfl wc.heap.size 3 i0 (.int .i64 0) 1 8 Tryd.underlying25 hi hz0 hz1 hz2 rfl (by decide) _ _ _ rfl (HX.out.alloc _) ⟨wr.heap.size, 0, none⟩ 1 1 [.int .i64 1] rfl rfl ?a1 ?a2 ?a3 ?a4 ?a5 ?_)
        case a1 => exact news_one wr _ _
        case a2 => intro u hu; simp at hu; subst hu; rfl
        case a3 => unfold maxLen; omega
        case a4 => omega
        case a5 => simp; omega
        intro v' w2 hown2 hgrow2 _
        have hgb : Below wc.heap.size wr w2 := ((Below.refl wc.heap.size wr).alloc hsz _).grown hgrow2 (by simp; omega) (fun g e => (HX.out.lt g e).1)
        have hkp : Keeps (fun y => y = b) wc w2 := (HKP.out.alloc _).grown hgrow2 (fun g e => .inr (HX.out.lt g e).1)
        have HO := Lib.hid (show w2.ownsRow wc.heap.size 3 1 v' (k + 1) (ints (List.replicate (k + 1) 1)) by
          have : ints (List.replicate (k + 1) 1) = ints (List.replicate k 1) ++ [.int .i64 1] := by rw [ints_snoc, List.replicate_succ']
          rw [this]; exact hown2)
        have hc : ∀ j, w2.cell? ⟨b, j, none⟩ = wr.cell? ⟨b, j, none⟩ := fun j => hgb.cell (p := ⟨b, j, none⟩) hbl
        have d0 := (hc 0).trans c0
        have d1 := (hc 1).trans c1
        have d2 := (hc 2).trans c2
        have d3 := (hc 3).trans c3
        have df : ∀ j, w2.frozen? ⟨b, j, none⟩ = false := fun j => (hgb.frozen (p := ⟨b, j, none⟩) hbl).trans (cf j)
        have HKP2 := Lib.hid hkp
        obtain ⟨pv, cv, hv⟩ := own_shape HO.out (by simp [ints])
        subst hv
        clear hown2 hgrow2 hgb hkp hc c0 c1 c2 c3 cf
        go_wp2_with fail
        go_roundw
        case rel =>
          refine ⟨k + 1, .slice pv (k + 1) cv, by omega, by go_num, ?_, ?_, ?_, ?_, ?_, Lib.hid ?_, Lib.hid (HKP2.out.setCell _ _ rfl)⟩
          · exact World.cell?_setCell_same w2 _ _ d1
          · exact (World.cell?_setCell_other w2 _ _ _ (by simp)).trans d0
          · exact (World.cell?_setCell_other w2 _ _ _ (by simp)).trans d2
          · exact (World.cell?_setCell_other w2 _ _ _ (by simp)).trans d3
          · intro j; rw [World.frozen?_setCell]; exact df j
          · exact own_other HO.out ⟨b, 1, none⟩ _ (fun e => by have := (HO.out.lt _ e).1; simp only at this; omega)
        case measure => simp [intOf]; omega
      · obtain rfl : k = n := by omega
        have hw : Below (w.heap.size + 1) (w.alloc (.cells #[.int .i64 0, .slice none 0 0, .slice none 0 0, .slice none 0 0] 28)) wr := HBW.out.trans (HKP.out.below (by omega) (fun y e => by omega))
        have hsw := hw.size
        simp at hsw
        have e0 : ∀ j, wr.cell? ⟨w.heap.size, j, none⟩ = (w.alloc (.cells #[.int .i64 0, .slice none 0 0, .slice none 0 0, .slice none 0 0] 28)).cell? ⟨w.heap.size, j, none⟩ := fun j => hw.cell (p := ⟨w.heap.size, j, none⟩) (by simp)
        have t0 : wr.cell? ⟨w.heap.size, 0, none⟩ = some (.int .i64 0) := (e0 0).trans (by simp)
        have t1 : wr.cell? ⟨w.heap.size, 1, none⟩ = some (.slice none 0 0) := (e0 1).trans (by simp)
        have t2 : wr.cell? ⟨w.heap.size, 2, none⟩ = some (.slice none 0 0) := (e0 2).trans (by simp)
        have t3 : wr.cell? ⟨w.heap.size, 3, none⟩ = some (.slice none 0 0) := (e0 3).trans (by simp)
        have tf : ∀ j, wr.frozen? ⟨w.heap.size, j, none⟩ = false := fun j => (hw.frozen (p := ⟨w.heap.size, j, none⟩) (by simp)).trans (by simp)
        obtain ⟨g1, cap, cur, rfl, hB1, _⟩ := own_block HX.out (by omega)
        have hO : Own3 (w.heap.size + 1) wr (Tab.new kind k) g1 cap g2 k g3 k := by
          refine ⟨?_, ?_, ?_, by omega, by omega, n23⟩
          · have e : (Tab.new kind k).gens.length = k := by simp [Tab.new]
            rw [e]; exact own_base HX.out (by omega)
          · have e : (Tab.new kind k).taken.length = k := by simp [Tab.new]
            have e2 : bools (Tab.new kind k).taken = List.replicate k (.bool false) := by simp [bools, Tab.new]
            rw [e, e2]; exact own_keeps O2.out HKP.out (fun g e => by simp [Value.ownBlock] at e; subst e; exact fun e => nb2 e.symm)
          · have e : (Tab.new kind k).list.length = k := by simp [Tab.new]
            have e2 : ints (Tab.new kind k).list = List.replicate k (.int .i64 0) := by simp [ints, Tab.new]
            rw [e, e2]; exact own_keeps O3.out HKP.out (fun g e => by simp [Value.ownBlock] at e; subst e; exact fun e => nb3 e.symm)
        have HO3 := Lib.hid hO
        have hbb : Below w.heap.size w wr := ((Below.refl w.heap.size w).alloc (Nat.le_refl _) _).trans (hw.mono (by simp))
        clear hO e0
        go_wp2_with fail
        refine bodyPost_ret (v := .tuple #[rv kind (.slice (some ⟨g1, 0, none⟩) k cap) (.slice (some ⟨g2, 0, none⟩) k k) (.slice (some ⟨g3, 0, none⟩) k k), .int .i64 0]) ?r1 rfl ?_
        case r1 => simp [results, Tryd.results19, go_sem, t0, t1, t2, t3]
        have hk4 := fun u0 u1 u2 u3 => ((((Keeps.refl (fun y => y = w.heap.size) wr).setCell ⟨w.heap.size, 0, none⟩ u0 rfl).setCell ⟨w.heap.size, 1, none⟩ u1 rfl).setCell ⟨w.heap.size, 2, none⟩ u2 rfl).setCell ⟨w.heap.size, 3, none⟩ u3 rfl
        refine ⟨g1, cap, g2, k, g3, k, rfl, ?_, below_keeps hbb (hk4 _ _ _ _) (fun b hb => by omega)⟩
        have hO := HO3.out
        have j1 := (hO.g.lt g1 rfl).1
        have j2 := (hO.t.lt g2 rfl).1
        have j3 := (hO.l.lt g3 rfl).1
        exact ⟨own_base (own_keeps hO.g (hk4 _ _ _ _) (fun g e => by simp [Value.ownBlock] at e; omega)) (by omega), own_base (own_keeps hO.t (hk4 _ _ _ _) (fun g e => by simp [Value.ownBlock] at e; omega)) (by omega), own_base (own_keeps hO.l (hk4 _ _ _ _) (fun g e => by simp [Value.ownBlock] at e; omega)) (by omega), hO.n12, hO.n13, hO.n23⟩

theorem rnew_ok (S : Nat → Prop) (kind : Int) (n : Nat) (w : World) (hS : ∀ x, S x → x < w.heap.size) (k1 : 1 ≤ kind) (k3 : kind ≤ 3) (n1 : 1 ≤ n) (n4 : n ≤ 4096) :
    Calls Tryd.prog 19 #[.int .i64 kind, .int .i64 n] w (TabPost S w (Tab.new kind n) 0) := by
  refine (rnew_own kind n w k1 k3 n1 n4).mono ?_
  rintro e w' ⟨g1, c1, g2, c2, g3, c3, rfl, hO, hb⟩
  have hr := RT.of_own3 (S := S) hO (new_good k1 k3 n1 n4) hS
  rw [show (Tab.new kind n).gens.length = n by simp [Tab.new], show (Tab.new kind n).taken.length = n by simp [Tab.new], show (Tab.new kind n).list.length = n by simp [Tab.new]] at hr
  exact ⟨_, _, _, rfl, hr, hb⟩
end Go.Proofs.YtlcdbblbepndoaaDoor
