/- The walk of the law BoundsPlays: it answers true whatever is done, in every order; it writes nothing that was there; no condition but how the argument reads and what the one variable holds. -/
import Derived.Test.YtknhjbfhkfngeaaDoorNHalf
import Derived.Test.YtknhjbfhkfngeaaDoorNOpens
import Derived.Deep.CutBlock
import Derived.Deep.CutRange
import Derived.Deep.DeepCutAuto
namespace Go.Proofs.YtknhjbfhkfngeaaDoor
open Go.RowKit Go.Maps Hp Cal

abbrev OT : TypeId := 27
/-- Behind an act. -/
def Acted (W : World) (c q : Nat) (o : Obj) (n : Nat) (rv : Value) (w : World) : Prop :=
  ∃ (L : List Pr) (p : Option Addr) (cp : Nat), rv = .slice p L.length cp ∧ L.length ≤ n + 1 ∧ Half W c q o (.slice p L.length cp) L L w

set_option maxHeartbeats 4000000 in
set_option maxRecDepth 100000 in
theorem plays_any (v : Value) (l : List (Int × Int × Int)) (w : World) (hL : LaidAt w) (ho : OpsAt w v l) :
    Calls Tryd.prog 3 #[v] w fun e w' => e = .returned (.bool true) ∧ Below w.heap.size w w' := by
  have HOW := Lib.hid ho
  have HLD := Lib.hid hL
  obtain ⟨p, cap, rfl, hl63, _⟩ := ho
  have hl63' : (l.length : Int) ≤ 9223372036854775807 := by omega
  have HF0 := Lib.hid (show Calls Tryd.prog 5 #[] w fun e w' => ∃ c, e = .returned (.pointer (some ⟨c, 0, none⟩)) ∧ ∃ q o, Half w c q o (.slice none 0 0) [] [] w' from by
    have hp := hL.pos
    obtain ⟨o, ho⟩ : ∃ o, w.heap[0]? = some o := ⟨_, Array.getElem?_eq_getElem hp⟩
    exact (cnew_any (B := w.heap.size) w (Nat.le_refl _)).mono fun e w' ⟨c, S, he, hc, hb, hS⟩ => ⟨c, he, 0, o, ⟨S, hc, fun g e => by simp [Value.ownBlock] at e, fun e => by have := hS 0 e; omega⟩, World.ownsRow_nil _ _ _ _, good_nil, good_nil, hb, (hb.block 0 hp).trans ho⟩)
  clear hL
  go_enter Tryd.func3, Tryd.ntmps3
  go_wp2_with fail
  refine HF0.out.mono ?_
  rintro e w1 ⟨c, rfl, hh0⟩
  have HH0 := Lib.hid hh0
  clear hh0 HF0
  go_wp2_with fail
  go_loopw [4, 5] (fun rv iv wr => ∃ (k : Nat) (L : List Pr) (pr : Option Addr) (cr : Nat), rv = .slice pr L.length cr ∧ iv = .int .i64 k ∧ L.length ≤ k ∧ k ≤ 300 ∧ k ≤ l.length ∧ Hid (∃ q o, Half w c q o (.slice pr L.length cr) L L wr)) (fun _ iv _ => l.length - (intOf iv).toNat)
  case atStart => exact ⟨0, [], none, 0, rfl, rfl, by simp, by omega, by omega, HH0⟩
  case round =>
    obtain ⟨k, L, pr, cr, rfl, rfl, hRk, hk4, hkl, HF⟩ := hrel
    clear HH0
    by_cases hlt : k < l.length
    · by_cases hlt4 : k < 300
      · have hlt' : (k : Int) < (l.length : Int) := by omega
        have hlt4' : (k : Int) < 300 := by omega
        obtain ⟨⟨k0, id, tm⟩, hq⟩ : ∃ q, l[k]? = some q := ⟨_, List.getElem?_eq_getElem hlt⟩
        obtain ⟨q0, o0, hh⟩ := HF.out
        obtain ⟨p', cap', e1, _, hc2⟩ := HOW.out.below hh.below
        obtain ⟨b, off, rfl, c0, c1, c2, hid⟩ := hc2 k k0 id tm hq
        injection e1 with e1 _ e3
        subst e1
        have HH := Lib.hid (hh.box #[.int .i64 k0, .int .i64 id, .int .i64 tm] OT)
        have HID := Lib.hid hid
        have hR4 : L.length ≤ 299 := by omega
        clear hc2 hq e3 hh hid HF
        go_upto_block 2 with fail
        go_cut [4] (fun rv wx => Acted w c wr.heap.size (.cells #[.int .i64 k0, .int .i64 id, .int .i64 tm] OT (0, 0)) L.length rv wx)
        case first =>
          by_cases e0 : k0 = 0
          · subst e0
            by_cases hbad : id < 0 ∨ tm < 0
            · go_wp2_with fail
              refine (r_put_no HH.out hbad).mono ?_
              rintro e w2 ⟨v2, rfl, h2, p2, cp2, rfl⟩
              have q1 : w2.cell? ⟨wr.heap.size, 1, none⟩ = some (.int .i64 id) := h2.cell 1
              have q2 : w2.cell? ⟨wr.heap.size, 2, none⟩ = some (.int .i64 tm) := h2.cell 2
              have H2 := Lib.hid h2
              clear h2
              go_wp2_with fail
              refine (p_put_no H2.out hbad).mono ?_
              rintro e w3 ⟨rfl, h3⟩
              have H3 := Lib.hid h3
              clear h3 q1 q2
              go_wp2_with fail
              refine (p_num H3.out HLD.out 1).mono ?_
              rintro e w4 ⟨rfl, h4⟩
              have H4 := Lib.hid h4
              clear h4
              go_wp2_with fail
              go_meet
              exact ⟨L, pr, cr, rfl, by omega, H4.out⟩
            · have hi0 : 0 ≤ id := by omega
              have ht0 : 0 ≤ tm := by omega
              go_wp2_with fail
              refine (r_put_yes HH.out hi0 ht0 (by omega)).mono ?_
              rintro e w2 ⟨v2, rfl, h2⟩
              obtain ⟨p2, cp2, rfl, _⟩ := own_small h2.its
              have hl2 := put_len id tm L
              have q1 : w2.cell? ⟨wr.heap.size, 1, none⟩ = some (.int .i64 id) := h2.cell 1
              have q2 : w2.cell? ⟨wr.heap.size, 2, none⟩ = some (.int .i64 tm) := h2.cell 2
              have H2 := Lib.hid h2
              clear h2
              go_wp2_with fail
              refine (p_put_yes H2.out HID.out hi0 ht0 (by omega)).mono ?_
              rintro e w3 ⟨rfl, h3⟩
              have H3 := Lib.hid h3
              clear h3 q1 q2
              go_wp2_with fail
              refine (p_num H3.out HLD.out 0).mono ?_
              rintro e w4 ⟨rfl, h4⟩
              have H4 := Lib.hid h4
              clear h4
              go_wp2_with fail
              go_meet
              exact ⟨_, p2, cp2, rfl, hl2, H4.out⟩
          by_cases e1 : k0 = 1
          · subst e1
            go_wp2_with fail
            refine (r_drop HH.out id (by omega)).mono ?_
            rintro e w2 ⟨v2, rfl, h2⟩
            obtain ⟨p2, cp2, rfl, _⟩ := own_small h2.its
            have hl2 := rem_len id L
            have q1 : w2.cell? ⟨wr.heap.size, 1, none⟩ = some (.int .i64 id) := h2.cell 1
            have H2 := Lib.hid h2
            clear h2
            go_wp2_with fail
            refine (p_drop H2.out HID.out).mono ?_
            rintro e w3 ⟨rfl, h3⟩
            have H3 := Lib.hid h3
            clear h3 q1
            go_wp2_with fail
            refine (p_num H3.out HLD.out (remE id L)).mono ?_
            rintro e w4 ⟨rfl, h4⟩
            have H4 := Lib.hid h4
            clear h4
            generalize remE id L = ee at *
            go_wp2_with fail
            go_meet
            exact ⟨_, p2, cp2, rfl, by omega, H4.out⟩
          by_cases e2 : k0 = 2
          · subst e2
            go_wp2_with fail
            refine (r_due HH.out tm (by omega)).mono ?_
            rintro e w2 ⟨v1, v2, rfl, h2⟩
            have hdl : (L.drop (dueN tm L)).length ≤ L.length := by rw [List.length_drop]; omega
            have hK := dueN_le (t := tm) L
            have q2 : w2.cell? ⟨wr.heap.size, 2, none⟩ = some (.int .i64 tm) := h2.cell 2
            have H2 := Lib.hid h2
            obtain ⟨S2, hi2, _, _, _, hn2, _⟩ := h2
            obtain ⟨p1, cp1, rfl, _⟩ := own_small hi2
            obtain ⟨p2, cp2, rfl, _⟩ := own_small hn2
            clear hi2 hn2
            go_wp2_with fail
            refine (p_due H2.out (by omega)).mono ?_
            rintro e w3 ⟨v3, rfl, h31, h32, h33⟩
            obtain ⟨p3, cp3, rfl, _⟩ := own_small h31
            have HSA := Lib.hid (same_any w3 _ _ _ _ (RowOf.of_own h31 (ids_row hK)) (RowOf.of_own h32 (ids_row hK)) (by omega))
            have H3 := Lib.hid h33
            clear h31 h32 h33 q2 H2
            go_wp2_with fail
            refine HSA.out.mono ?_
            rintro e w4 ⟨rfl, hb4⟩
            have H4 := Lib.hid (H3.out.under hb4)
            clear hb4
            go_wp2_with fail
            go_meet
            exact ⟨_, p1, cp1, by rw [List.length_drop], by omega, H4.out⟩
          have n0 : (k0 == 0) = false := by simpa using e0
          have n1 : (k0 == 1) = false := by simpa using e1
          have n2 : (k0 == 2) = false := by simpa using e2
          clear e0 e1 e2
          go_wp2_with fail
          go_meet
          exact ⟨L, pr, cr, rfl, by omega, HH.out⟩
        case rest =>
          obtain ⟨L5, p5, c5, rfl, hl5, h5⟩ := hcut
          have q1 : wc.cell? ⟨wr.heap.size, 1, none⟩ = some (.int .i64 id) := h5.cell 1
          have H5 := Lib.hid h5
          clear h5 HH
          have HA := Lib.hid (p_at H5.out HID.out)
          have hl4 : L5.length ≤ 300 := by omega
          cases hf : findI id L5 with
          | some i =>
            obtain ⟨hi, hid2, _⟩ := findI_some hf
            have e1 : atV id L5 = L5[i].2 := by
              unfold atV
              rw [hf]
              show (L5.getD i (0, 0)).2 = L5[i].2
              rw [List.getD_eq_getElem?_getD, List.getElem?_eq_getElem hi]
              rfl
            have e2 : atB id L5 = true := by unfold atB; rw [hf]; rfl
            rw [e1, e2] at HA
            have HC := Lib.hid (show ∀ w', Its w' (.slice p5 L5.length c5) L5 → ∃ g, p5 = some ⟨g, 0, none⟩ ∧ w'.cell? ⟨g, i * 2 + 1, none⟩ = some (.int .i64 L5[i].2) from fun w' h => by
              obtain ⟨g, cap', e, _, _⟩ := own_block2 h (by omega)
              cases e
              exact ⟨g, rfl, (h.cells i hi).2⟩)
            have HN : nxB L5 = true := by cases L5 with | nil => simp at hi | cons x r => rfl
            have HC0 := Lib.hid (show ∀ w' g c', Its w' (.slice (some ⟨g, 0, none⟩) L5.length c') L5 → w'.cell? ⟨g, 1, none⟩ = some (.int .i64 (nxV L5)) from fun w' g c' h => by
              have := (h.cells 0 (by omega)).2
              have e : L5[0].2 = nxV L5 := by cases L5 with | nil => simp at hi | cons x r => rfl
              rw [e] at this
              simpa using this)
            generalize L5[i].2 = y at *
            clear e1 e2 hid2
            go_wp2_with fail
            refine HA.out.mono ?_
            rintro e w6 ⟨rfl, h6⟩
            have q1' : w6.cell? ⟨wr.heap.size, 1, none⟩ = some (.int .i64 id) := h6.cell 1
            have H6 := Lib.hid h6
            have HFI := Lib.hid (r_find h6 id (by omega))
            rw [hf] at HFI
            have HFI := Lib.hid (show Calls Tryd.prog 15 #[.slice p5 L5.length c5, .int .i64 id] w6 (fun e w' => e = .returned (.int .i64 (i : Nat)) ∧ w6 = w') from HFI.out)
            clear h6 q1 HA
            go_wp2_with fail
            refine HFI.out.mono ?_
            rintro e w7 ⟨rfl, rfl⟩
            obtain ⟨g, rfl, c0'⟩ := HC.out _ H6.out.its
            have HLN := Lib.hid (p_len H6.out)
            have hi' : (i : Int) < (L5.length : Int) := by omega
            have hi0' : (0 : Int) ≤ (i : Int) := by omega
            go_wp2_with fail
            refine HLN.out.mono ?_
            rintro e w7 ⟨rfl, rfl⟩
            have HX := Lib.hid (p_next H6.out)
            have HI6 := Lib.hid (fun w' (h : Half w c wr.heap.size (.cells #[.int .i64 k0, .int .i64 id, .int .i64 tm] OT (0, 0)) (.slice (some ⟨g, 0, none⟩) L5.length c5) L5 L5 w') => HC0.out w' g c5 h.its)
            rw [HN] at HX
            generalize nxV L5 = y0 at *
            clear q1' HN
            go_wp2_with fail
            refine HX.out.mono ?_
            rintro e w8 ⟨rfl, h8⟩
            have c8 := HI6.out w8 h8
            have H8 := Lib.hid h8
            have hpos : (0 : Int) < (L5.length : Int) := by omega
            clear h8 c0'
            go_wp2_with fail
            go_roundw
            case rel => exact ⟨k + 1, L5, some ⟨g, 0, none⟩, c5, rfl, by go_num, by omega, by omega, by omega, Lib.hid ⟨_, _, H8.out⟩⟩
            case measure => simp [intOf]; omega
          | none =>
            have e1 : atV id L5 = 0 := by unfold atV; rw [hf]
            have e2 : atB id L5 = false := by unfold atB; rw [hf]; rfl
            rw [e1, e2] at HA
            clear e1 e2
            go_wp2_with fail
            refine HA.out.mono ?_
            rintro e w6 ⟨rfl, h6⟩
            have q1' : w6.cell? ⟨wr.heap.size, 1, none⟩ = some (.int .i64 id) := h6.cell 1
            have H6 := Lib.hid h6
            have HFI := Lib.hid (r_find h6 id (by omega))
            rw [hf] at HFI
            have HFI := Lib.hid (show Calls Tryd.prog 15 #[.slice p5 L5.length c5, .int .i64 id] w6 (fun e w' => e = .returned (.int .i64 (-1)) ∧ w6 = w') from HFI.out)
            clear h6 q1 HA
            go_wp2_with fail
            refine HFI.out.mono ?_
            rintro e w7 ⟨rfl, rfl⟩
            have HLN := Lib.hid (p_len H6.out)
            go_wp2_with fail
            refine HLN.out.mono ?_
            rintro e w7 ⟨rfl, rfl⟩
            have HX := Lib.hid (p_next H6.out)
            clear q1' hf
            rcases L5 with _ | ⟨x, r⟩
            · rw [show nxB [] = false from rfl, show nxV [] = 0 from rfl] at HX
              go_wp2_with fail
              refine HX.out.mono ?_
              rintro e w8 ⟨rfl, h8⟩
              have H8 := Lib.hid h8
              clear h8
              go_wp2_with fail
              go_roundw
              case rel => exact ⟨k + 1, [], p5, c5, rfl, by go_num, by simp, by omega, by omega, Lib.hid ⟨_, _, H8.out⟩⟩
              case measure => simp [intOf]; omega
            · obtain ⟨n, hn⟩ : ∃ n, n = (x :: r).length := ⟨_, rfl⟩
              obtain ⟨g, cg, e, _, _⟩ := own_block2 H6.out.its (by simp)
              injection e with e5 _ e6
              subst e5 e6
              have HI6 := Lib.hid (fun w' (h : Half w c wr.heap.size (.cells #[.int .i64 k0, .int .i64 id, .int .i64 tm] OT (0, 0)) (.slice (some ⟨g, 0, none⟩) (x :: r).length c5) (x :: r) (x :: r) w') => show w'.cell? ⟨g, 1, none⟩ = some (.int .i64 x.2) from by
                have := (h.its.cells 0 (by simp)).2
                simpa using this)
              rw [show nxB (x :: r) = true from rfl, show nxV (x :: r) = x.2 from rfl] at HX
              have hpos : (0 : Int) < (n : Int) := by simp at hn; omega
              have HLN2 := Lib.hid hn
              rw [← hn] at HX HI6 hl5 hl4 ⊢
              have HR := Lib.hid (fun w' (h : Half w c wr.heap.size (.cells #[.int .i64 k0, .int .i64 id, .int .i64 tm] OT (0, 0)) (.slice (some ⟨g, 0, none⟩) n c5) (x :: r) (x :: r) w') => show ∃ (L : List Pr), n = L.length ∧ ∃ q o, Half w c q o (.slice (some ⟨g, 0, none⟩) L.length c5) L L w' from ⟨x :: r, hn, _, _, hn ▸ h⟩)
              clear hn H6
              generalize x.2 = y0 at *
              go_wp2_with fail
              refine HX.out.mono ?_
              rintro e w8 ⟨rfl, h8⟩
              have c8 := HI6.out w8 h8
              obtain ⟨LL, hLL, h9⟩ := HR.out w8 h8
              have H8 := Lib.hid h9
              have HLL := Lib.hid hLL
              clear h8 h9 hLL
              go_wp2_with fail
              go_roundw
              case rel => exact ⟨k + 1, LL, some ⟨g, 0, none⟩, c5, by rw [HLL.out], by go_num, by have := HLL.out; omega, by omega, by omega, H8⟩
              case measure => simp [intOf]; omega
      · have hg3 : decide ((k : Int) < 300) = false := decide_eq_false (by omega)
        have hlt' : (k : Int) < (l.length : Int) := by omega
        have HB := Lib.hid (show Below w.heap.size w wr from by obtain ⟨_, _, h⟩ := HF.out; exact h.below)
        have HSU := Lib.hid (sure_any wr)
        clear hlt4 HF
        go_wp2_with fail
        refine HSU.out.mono ?_
        rintro e w2 ⟨rfl, hb2⟩
        have HB2 := Lib.hid (bnext HB.out hb2)
        clear hb2
        go_wp2_with fail
        go_ret
        exact ⟨rfl, HB2.out⟩
    · have hg3 : decide (k < l.length) = false := decide_eq_false hlt
      have HB := Lib.hid (show Below w.heap.size w wr from by obtain ⟨_, _, h⟩ := HF.out; exact h.below)
      have HSU := Lib.hid (sure_any wr)
      clear hlt HF
      go_wp2_with fail
      refine HSU.out.mono ?_
      rintro e w2 ⟨rfl, hb2⟩
      have HB2 := Lib.hid (bnext HB.out hb2)
      clear hb2
      go_wp2_with fail
      go_ret
      exact ⟨rfl, HB2.out⟩
end Go.Proofs.YtknhjbfhkfngeaaDoor
