/- The document's Order: by insertion; no condition but that the children are at most 2^47 bytes. -/
import Derived.Test.YtfahpjilgdlhiaaWOrder
import Derived.Test.YtfahpjilgdlhiaaWRPick
namespace Go.Proofs.Ytfahpjilgdlhiaa
open Go.RowKit Edf

theorem src_nil (w : World) (p : Option Addr) (c : Nat) (f : Nat → Int) : Src1 w (.slice p 0 c) 0 (numL f 0) := ⟨_, _, rfl, rfl, fun j y hy => by cases hy⟩
theorem src_empty (w : World) (p : Option Addr) (m c : Nat) (f : Nat → Int) (h : m = 0) : Src1 w (.slice p m c) m (numL f m) := by subst h; exact src_nil w p c f
theorem src_take {B : Nat} {w : World} {g cap : Nat} {L : List Nat} (h : NumsO B w (.slice (some ⟨g, 0, none⟩) L.length cap) L.length (fnL L)) {a : Nat} (ha : a ≤ L.length) (cc : Nat) : Src1 w (.slice (some ⟨g, 0, none⟩) a cc) a (numL (fnL (L.take a)) a) := by
  refine ⟨_, _, rfl, by rw [numL_len, Nat.mul_one], fun j y hy => ⟨g, 0, rfl, ?_⟩⟩
  have hj : j < a := by have := (List.getElem?_eq_some_iff.1 hy).1; rwa [numL_len] at this
  have hj2 : j < (L.take a).length := by rw [List.length_take]; omega
  unfold numL at hy
  rw [lst_at hj, fnL_at hj2, List.getElem_take] at hy
  cases hy
  rw [World.ownsRow.cellAt h (0 + j) (by omega), Nat.zero_add]
  refine (lst_at (show j < L.length by omega)).trans ?_
  rw [fnL_at (by omega)]
theorem src_drop {B : Nat} {w : World} {g cap : Nat} {L : List Nat} (h : NumsO B w (.slice (some ⟨g, 0, none⟩) L.length cap) L.length (fnL L)) {a : Nat} (ha : a ≤ L.length) (cc : Nat) : Src1 w (.slice (some ⟨g, a, none⟩) (L.length - a) cc) (L.length - a) (numL (fnL (L.drop a)) (L.length - a)) := by
  refine ⟨_, _, rfl, by rw [numL_len, Nat.mul_one], fun j y hy => ⟨g, a, rfl, ?_⟩⟩
  have hj : j < L.length - a := by have := (List.getElem?_eq_some_iff.1 hy).1; rwa [numL_len] at this
  have hj2 : j < (L.drop a).length := by rw [List.length_drop]; omega
  unfold numL at hy
  rw [lst_at hj, fnL_at hj2, List.getElem_drop] at hy
  cases hy
  rw [World.ownsRow.cellAt h (a + j) (by omega)]
  refine (lst_at (show a + j < L.length by omega)).trans ?_
  rw [fnL_at (by omega)]
/-- A row that stays while another row grows. -/
theorem nums_stay {B n : Nat} {w w' : World} {v u : Value} {f : Nat → Int} (h : NumsO B w v n f) (hg : w.grownBy w' u.ownBlock) (hn : ∀ b, v.ownBlock = some b → ¬ u.ownBlock = some b) : NumsO B w' v n f := by
  refine World.ownsRow.kept h hg ?_
  cases e : v.ownBlock with
  | none => exact .inl rfl
  | some b => exact .inr fun k => hn b e k.symm
set_option maxHeartbeats 4000000 in
set_option maxRecDepth 100000 in
theorem rorder_any (w : World) (v : Value) (n : Nat) (c : Nat → Tri) (h : Tris w v n c) (hn : n * 24 ≤ 140737488355328) : Calls Try.prog 16 #[v] w (OrdPost w (ordL c n)) := by
  have HV := Lib.hid (fun W (hb : Below w.heap.size w W) => h.below hb)
  have HAH := Lib.hid (fun W (hb : Below w.heap.size w W) a b ha hb2 => rahead_any W v n c (h.below hb) a b ha hb2)
  obtain ⟨p1, cap1, rfl, hm, _⟩ := h
  go_enter Try.func16, Try.ntmps16
  go_wp2_with fail
  go_loopw [3, 4] (fun pv iv wr => ∃ (i : Nat), i ≤ n ∧ iv = .int .i64 i ∧ Hid (NumsO w.heap.size wr pv (ordL c i).length (fnL (ordL c i))) ∧ Hid (Below w.heap.size w wr)) (fun _ iv _ => n - (intOf iv).toNat)
  case atStart => exact ⟨0, Nat.zero_le _, rfl, Lib.hid (nil_nums _ _ _), Lib.hid (Below.refl _ _)⟩
  case round =>
    obtain ⟨i, hin, rfl, HO, HB⟩ := hrel
    by_cases hlti : i < n
    · have hli' : (i : Int) < (n : Int) := by omega
      have i00 : (0 : Int) ≤ (i : Int) := by omega
      obtain ⟨_, _, hsl, _, hcs⟩ := HV.out wr HB.out
      injection hsl with hs1 hs2 hs3
      subst hs1 hs3
      obtain ⟨b1, off, rfl, c0, c1, c2⟩ := hcs i hlti
      clear hcs hs2 c0 c2
      have hpl : (ordL c i).length ≤ i := ordL_len i
      by_cases hl : 0 < (c i).b
      · have HP := Lib.hid (show ordL c (i + 1) = insL c i (ordL c i) from if_pos hl)
        have HM := Lib.hid (fun x (h : x ∈ ordL c i) => (ordL_mem.1 h).1)
        have hl2 : ¬ (c i).b ≤ 0 := by omega
        generalize (c i).b = xb at *
        generalize ordL c i = L at *
        obtain ⟨po, co, hpv, hco⟩ := own_small HO.out
        subst hpv
        have hcut := cutL_le (c := c) (i := i) L
        go_wp2_with fail
        go_loopw [5] (fun av wr => ∃ (a : Nat), a ≤ cutL c i L ∧ av = .int .i64 a ∧ Hid (NumsO w.heap.size wr (.slice po L.length co) L.length (fnL L)) ∧ Hid (Below w.heap.size w wr)) (fun av _ => L.length - (intOf av).toNat)
        case atStart => exact ⟨0, Nat.zero_le _, rfl, HO, HB⟩
        case round =>
          clear HO HB
          obtain ⟨a, hac, rfl, HO, HB⟩ := hrel
          by_cases hal : a < L.length
          · have hal' : (a : Int) < (L.length : Int) := by omega
            have a00 : (0 : Int) ≤ (a : Int) := by omega
            obtain ⟨g, cap, hgv, _, hgB, hgl⟩ := own_block2 HO.out (by omega)
            cases hgv
            have x0 : wr.cell? ⟨g, a, none⟩ = some (.int .i64 (L[a] : Nat)) := by
              rw [World.ownsRow.cellAt HO.out a (by omega)]
              refine (lst_at hal).trans ?_
              rw [fnL_at hal]
            have hLa : L[a] < n := by have := HM.out L[a] (List.getElem_mem hal); omega
            have HCL := Lib.hid (HAH.out wr HB.out L[a] i hLa hlti)
            by_cases hc : a < cutL c i L
            · rw [decide_eq_true (cutL_ahead hc hal)] at HCL
              generalize L[a] = la at *
              go_wp2_with fail
              refine HCL.out.mono ?_
              rintro e w3 ⟨rfl, hb3⟩
              have HO3 := Lib.hid (own_under HO.out hb3)
              have HB3 := Lib.hid (bnext HB.out hb3)
              clear hb3 HO HB
              go_wp2_with fail
              go_roundw
              case rel => exact ⟨a + 1, by omega, by go_num, HO3, HB3⟩
              case measure => simp [intOf]; omega
            · obtain rfl : a = cutL c i L := by omega
              rw [decide_eq_false (cutL_stop hal)] at HCL
              have HI := Lib.hid (insL_cut (c := c) (i := i) L)
              generalize L[cutL c i L] = la at *
              generalize cutL c i L = a at *
              go_wp2_with fail
              refine HCL.out.mono ?_
              rintro e w3 ⟨rfl, hb3⟩
              have HO3 := Lib.hid (own_under HO.out hb3)
              have HB3 := Lib.hid (bnext HB.out hb3)
              clear hb3 HO HB hc
              go_wp2_with (at_builtin; refine wpList_append_ints rfl _ _ rfl w.heap.size _ 0 (numL (fnL []) 0) rfl (nil_nums w.heap.size _ _) _ a (numL (fnL (L.take a)) a) rfl (src_take HO3.out (by omega) co) (numL_one _ _) (by omega) HB3.out.size ?_)
              intro p4 c4 w4 hown hgrow hat
              have hg3 := (World.ownsRow.lt HO3.out g rfl).2
              have HN4 := Lib.hid (show NumsO w.heap.size w4 (.slice p4 a c4) a (fnL (L.take a)) from by
                have e : numL (fnL []) 0 ++ numL (fnL (L.take a)) a = numL (fnL (L.take a)) a := rfl
                try rw [Nat.zero_add] at hown
                try rw [e] at hown
                exact hown)
              have HO4 := Lib.hid (own_under HO3.out (below_of_grown hgrow))
              have HB4 := Lib.hid (bnext HB3.out (below_of_grown hgrow))
              have HAP := Lib.hid (show ∀ b, (Value.slice p4 a c4).ownBlock = some b → ¬ b < w3.heap.size from fun b e => by
                try rw [Nat.zero_add] at hat
                rcases hat b e with k | k
                · cases k
                · omega)
              clear hown hgrow hat
              have HN5 := Lib.hid (own_under HN4.out ((Below.refl w4.heap.size w4).alloc (Nat.le_refl _) (.cells #[.int .i64 (i : Nat)] 3)))
              have HO5 := Lib.hid (own_under HO4.out ((Below.refl w4.heap.size w4).alloc (Nat.le_refl _) (.cells #[.int .i64 (i : Nat)] 3)))
              have HB5 := Lib.hid (below_alloc HB4.out (.cells #[.int .i64 (i : Nat)] 3))
              clear HO4 HN4 HB4
              go_wp2_with (at_builtin; refine wpList_append_ints rfl _ _ rfl w.heap.size _ a (numL (fnL (L.take a)) a) rfl HN5.out _ 1 [.int .i64 (i : Nat)] rfl (src_one w4 (i : Nat) 3) (by intro u hu; simp at hu; subst hu; rfl) (by omega) HB5.out.size ?_)
              intro p6 c6 w6 hown hgrow hat
              have el : (L.take a).length = a := by rw [List.length_take]; omega
              have HN6 := Lib.hid (show NumsO w.heap.size w6 (.slice p6 (a + 1) c6) (a + 1) (fnL (L.take a ++ [i])) from by
                have e := num_snoc (L.take a) i
                rw [List.length_append, el] at e
                show w6.ownsRow _ _ 1 _ (a + 1) (numL (fnL (L.take a ++ [i])) (a + 1))
                exact e ▸ hown)
              have HO6 := Lib.hid (nums_stay HO5.out hgrow (fun b e k => HAP.out b k (by
                have e2 : g = b := by simpa [Value.ownBlock] using e
                omega)))
              have HB6 := Lib.hid (HB5.out.grown hgrow HB5.out.size (fun b e => (World.ownsRow.lt HN5.out b e).1))
              clear hown hgrow hat HO5 HN5 HB5
              go_wp2_with (at_builtin; refine wpList_append_ints rfl _ _ rfl w.heap.size _ (a + 1) (numL (fnL (L.take a ++ [i])) (a + 1)) rfl HN6.out _ (L.length - a) (numL (fnL (L.drop a)) (L.length - a)) rfl (src_drop HO6.out (by omega) (co - a)) (numL_one _ _) (by omega) HB6.out.size ?_)
              intro p8 c8 w8 hown hgrow hat
              have HO8 := Lib.hid (show NumsO w.heap.size w8 (.slice p8 (a + 1 + (L.length - a)) c8) (ordL c (i + 1)).length (fnL (ordL c (i + 1))) from by
                have eA : (L.take a ++ [i]).length = a + 1 := by rw [List.length_append, el]; rfl
                have eB : (L.drop a).length = L.length - a := List.length_drop
                have eAB : ((L.take a ++ [i]) ++ L.drop a).length = a + 1 + (L.length - a) := by rw [List.length_append, eA, eB]
                have e := numL_app (L.take a ++ [i]) (L.drop a)
                rw [eA, eB, eAB] at e
                rw [HP.out, HI.out, show L.take a ++ i :: L.drop a = (L.take a ++ [i]) ++ L.drop a by simp, eAB]
                unfold NumsO
                rw [← e]
                exact hown)
              have HB8 := Lib.hid (HB6.out.grown hgrow HB6.out.size (fun b e => (World.ownsRow.lt HN6.out b e).1))
              clear hown hgrow hat
              go_wp2_with fail
              go_roundw
              case rel => exact ⟨i + 1, by omega, by go_num, HO8, HB8⟩
              case measure => simp [intOf]; omega
          · have haL : a = L.length := by omega
            have hge : decide (a < L.length) = false := decide_eq_false hal
            have HI := Lib.hid (insL_cut (c := c) (i := i) L)
            have hce : cutL c i L = a := by omega
            rw [hce] at HI
            clear hce hcut hac
            rcases HO.out.2 with ⟨hv, h0⟩ | ⟨g, cap, cur, hv, _⟩
            · injection hv with e1 e2 e3
              have ha0 : a = 0 := by omega
              have hL0 : L = [] := List.eq_nil_of_length_eq_zero h0
              clear haL hal hge e2 h0 HI HO
              subst e1 e3 ha0 hL0
              have HP := Lib.hid (show ordL c (i + 1) = [i] from HP.out)
              have hge : decide ((0 : Nat) < 0) = false := rfl
              go_wp2_with (at_builtin; refine wpList_append_ints rfl _ _ rfl w.heap.size _ 0 (numL (fnL []) 0) rfl (nil_nums w.heap.size _ _) _ 0 (numL (fnL []) 0) rfl (src_nil _ _ _ _) (numL_one _ _) (by omega) HB.out.size ?_)
              intro p4 c4 w4 hown hgrow hat
              have HN5 := Lib.hid (own_under hown ((Below.refl w4.heap.size w4).alloc (Nat.le_refl _) (.cells #[.int .i64 (i : Nat)] 3)))
              have HB5 := Lib.hid (below_alloc (bnext HB.out (below_of_grown hgrow)) (.cells #[.int .i64 (i : Nat)] 3))
              clear hown hgrow hat
              go_wp2_with (at_builtin; refine wpList_append_ints rfl _ _ rfl w.heap.size _ 0 (numL (fnL []) 0) rfl HN5.out _ 1 [.int .i64 (i : Nat)] rfl (src_one w4 (i : Nat) 3) (by intro u hu; simp at hu; subst hu; rfl) (by omega) HB5.out.size ?_)
              intro p6 c6 w6 hown hgrow hat
              have HN6 := Lib.hid (show NumsO w.heap.size w6 (.slice p6 1 c6) 1 (fnL [i]) from hown)
              have HB6 := Lib.hid (HB5.out.grown hgrow HB5.out.size (fun b e => (World.ownsRow.lt HN5.out b e).1))
              clear hown hgrow hat HN5 HB5
              go_wp2_with (at_builtin; refine wpList_append_ints rfl _ _ rfl w.heap.size _ 1 (numL (fnL [i]) 1) rfl HN6.out _ 0 (numL (fnL []) 0) rfl (src_nil _ _ _ _) (numL_one _ _) (by omega) HB6.out.size ?_)
              intro p8 c8 w8 hown hgrow hat
              have HO8 := Lib.hid (show NumsO w.heap.size w8 (.slice p8 1 c8) (ordL c (i + 1)).length (fnL (ordL c (i + 1))) from by
                rw [HP.out]
                exact hown)
              have HB8 := Lib.hid (HB6.out.grown hgrow HB6.out.size (fun b e => (World.ownsRow.lt HN6.out b e).1))
              clear hown hgrow hat
              go_wp2_with fail
              go_roundw
              case rel => exact ⟨i + 1, by omega, by go_num, HO8, HB8⟩
              case measure => simp [intOf]; omega
            · injection hv with e1 e2 e3
              subst e1 e3
              clear e2
              by_cases h0 : L.length = 0
              · have ha0 : a = 0 := by omega
                have hL0 : L = [] := List.eq_nil_of_length_eq_zero h0
                clear haL hal hge h0 HI HO
                subst ha0 hL0
                have HP := Lib.hid (show ordL c (i + 1) = [i] from HP.out)
                have hge : decide ((0 : Nat) < 0) = false := rfl
                go_wp2_with (at_builtin; refine wpList_append_ints rfl _ _ rfl w.heap.size _ 0 (numL (fnL []) 0) rfl (nil_nums w.heap.size _ _) _ 0 (numL (fnL []) 0) rfl (src_nil _ _ _ _) (numL_one _ _) (by omega) HB.out.size ?_)
                intro p4 c4 w4 hown hgrow hat
                have HN5 := Lib.hid (own_under hown ((Below.refl w4.heap.size w4).alloc (Nat.le_refl _) (.cells #[.int .i64 (i : Nat)] 3)))
                have HB5 := Lib.hid (below_alloc (bnext HB.out (below_of_grown hgrow)) (.cells #[.int .i64 (i : Nat)] 3))
                clear hown hgrow hat
                go_wp2_with (at_builtin; refine wpList_append_ints rfl _ _ rfl w.heap.size _ 0 (numL (fnL []) 0) rfl HN5.out _ 1 [.int .i64 (i : Nat)] rfl (src_one w4 (i : Nat) 3) (by intro u hu; simp at hu; subst hu; rfl) (by omega) HB5.out.size ?_)
                intro p6 c6 w6 hown hgrow hat
                have HN6 := Lib.hid (show NumsO w.heap.size w6 (.slice p6 1 c6) 1 (fnL [i]) from hown)
                have HB6 := Lib.hid (HB5.out.grown hgrow HB5.out.size (fun b e => (World.ownsRow.lt HN5.out b e).1))
                clear hown hgrow hat HN5 HB5
                go_wp2_with (at_builtin; refine wpList_append_ints rfl _ _ rfl w.heap.size _ 1 (numL (fnL [i]) 1) rfl HN6.out _ 0 (numL (fnL []) 0) rfl (src_nil _ _ _ _) (numL_one _ _) (by omega) HB6.out.size ?_)
                intro p8 c8 w8 hown hgrow hat
                have HO8 := Lib.hid (show NumsO w.heap.size w8 (.slice p8 1 c8) (ordL c (i + 1)).length (fnL (ordL c (i + 1))) from by
                  rw [HP.out]
                  exact hown)
                have HB8 := Lib.hid (HB6.out.grown hgrow HB6.out.size (fun b e => (World.ownsRow.lt HN6.out b e).1))
                clear hown hgrow hat
                go_wp2_with fail
                go_roundw
                case rel => exact ⟨i + 1, by omega, by go_num, HO8, HB8⟩
                case measure => simp [intOf]; omega
              · have hL0 : ¬ L = [] := fun e => h0 (by rw [e]; rfl)
                have hpos : 0 < L.length := by omega
                have hapos : 0 < a := by omega
                have hle : a ≤ L.length := by omega
                have hle2 : L.length ≤ a := by omega
                clear hal haL
                go_wp2_with (at_builtin; refine wpList_append_ints rfl _ _ rfl w.heap.size _ 0 (numL (fnL []) 0) rfl (nil_nums w.heap.size _ _) _ a (numL (fnL (L.take a)) a) rfl (src_take HO.out (by omega) co) (numL_one _ _) (by omega) HB.out.size ?_)
                intro p4 c4 w4 hown hgrow hat
                have hg3 := (World.ownsRow.lt HO.out g rfl).2
                have HN4 := Lib.hid (show NumsO w.heap.size w4 (.slice p4 a c4) a (fnL (L.take a)) from by
                  have e : numL (fnL []) 0 ++ numL (fnL (L.take a)) a = numL (fnL (L.take a)) a := rfl
                  try rw [Nat.zero_add] at hown
                  try rw [e] at hown
                  exact hown)
                have HO4 := Lib.hid (own_under HO.out (below_of_grown hgrow))
                have HB4 := Lib.hid (bnext HB.out (below_of_grown hgrow))
                have HAP := Lib.hid (show ∀ b, (Value.slice p4 a c4).ownBlock = some b → ¬ b < wr.heap.size from fun b e => by
                  try rw [Nat.zero_add] at hat
                  rcases hat b e with k | k
                  · cases k
                  · omega)
                clear hown hgrow hat
                have HN5 := Lib.hid (own_under HN4.out ((Below.refl w4.heap.size w4).alloc (Nat.le_refl _) (.cells #[.int .i64 (i : Nat)] 3)))
                have HO5 := Lib.hid (own_under HO4.out ((Below.refl w4.heap.size w4).alloc (Nat.le_refl _) (.cells #[.int .i64 (i : Nat)] 3)))
                have HB5 := Lib.hid (below_alloc HB4.out (.cells #[.int .i64 (i : Nat)] 3))
                clear HO4 HN4 HB4
                go_wp2_with (at_builtin; refine wpList_append_ints rfl _ _ rfl w.heap.size _ a (numL (fnL (L.take a)) a) rfl HN5.out _ 1 [.int .i64 (i : Nat)] rfl (src_one w4 (i : Nat) 3) (by intro u hu; simp at hu; subst hu; rfl) (by omega) HB5.out.size ?_)
                intro p6 c6 w6 hown hgrow hat
                have el : (L.take a).length = a := by rw [List.length_take]; omega
                have HN6 := Lib.hid (show NumsO w.heap.size w6 (.slice p6 (a + 1) c6) (a + 1) (fnL (L.take a ++ [i])) from by
                  have e := num_snoc (L.take a) i
                  rw [List.length_append, el] at e
                  show w6.ownsRow _ _ 1 _ (a + 1) (numL (fnL (L.take a ++ [i])) (a + 1))
                  exact e ▸ hown)
                have HO6 := Lib.hid (nums_stay HO5.out hgrow (fun b e k => HAP.out b k (by
                  have e2 : g = b := by simpa [Value.ownBlock] using e
                  omega)))
                have HB6 := Lib.hid (HB5.out.grown hgrow HB5.out.size (fun b e => (World.ownsRow.lt HN5.out b e).1))
                clear hown hgrow hat HO5 HN5 HB5
                clear HO6
                by_cases hcoa : co = a
                all_goals go_wp2_with (at_builtin; refine wpList_append_ints rfl _ _ rfl w.heap.size _ (a + 1) (numL (fnL (L.take a ++ [i])) (a + 1)) rfl HN6.out _ 0 (numL (fnL []) 0) rfl (src_nil _ _ _ _) (numL_one _ _) (by omega) HB6.out.size ?_)
                all_goals
                  intro p8 c8 w8 hown hgrow hat
                  have HO8 := Lib.hid (show NumsO w.heap.size w8 (.slice p8 (a + 1) c8) (ordL c (i + 1)).length (fnL (ordL c (i + 1))) from by
                    have eA : (L.take a ++ [i]).length = a + 1 := by rw [List.length_append, el]; rfl
                    rw [HP.out, HI.out, List.drop_of_length_le hle2, eA]
                    unfold NumsO
                    have e : numL (fnL (L.take a ++ [i])) (a + 1) ++ numL (fnL []) 0 = numL (fnL (L.take a ++ [i])) (a + 1) := List.append_nil _
                    exact e ▸ hown)
                  have HB8 := Lib.hid (HB6.out.grown hgrow HB6.out.size (fun b e => (World.ownsRow.lt HN6.out b e).1))
                  clear hown hgrow hat
                  go_wp2_with fail
                  go_roundw
                  case rel => exact ⟨i + 1, by omega, by go_num, HO8, HB8⟩
                  case measure => simp [intOf]; omega
      · have HP := Lib.hid (show ordL c (i + 1) = ordL c i from if_neg hl)
        have hl2 : (c i).b ≤ 0 := by omega
        generalize (c i).b = xb at *
        obtain ⟨po, co, hpv, _⟩ := own_small HO.out
        subst hpv
        go_wp2_with fail
        go_roundw
        case rel => exact ⟨i + 1, by omega, by go_num, Lib.hid (by rw [HP.out]; exact HO.out), HB⟩
        case measure => simp [intOf]; omega
    · have hge : decide (i < n) = false := decide_eq_false hlti
      obtain rfl : i = n := by omega
      clear hlti
      obtain ⟨pp, pc, hpv, _⟩ := own_small HO.out
      subst hpv
      go_wp2_with fail
      go_ret
      exact ⟨_, rfl, HO.out, HB.out⟩
end Go.Proofs.Ytfahpjilgdlhiaa
