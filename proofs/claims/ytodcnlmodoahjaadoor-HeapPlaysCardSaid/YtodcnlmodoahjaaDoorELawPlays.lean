/- The walk of the law HeapPlays: it answers true whatever is done, in every order; it writes nothing that was there; no condition but how the argument reads and what the one variable holds. -/
import Derived.Test.YtodcnlmodoahjaaDoorEHalf
import Derived.Deep.CutBlock
import Derived.Deep.CutRange
import Derived.Deep.DeepCutAuto
namespace Go.Proofs.YtodcnlmodoahjaaDoor
open Go.RowKit Go.Maps Hp

abbrev OT : TypeId := 27
/-- Behind an act. -/
def Acted (W : World) (b : Nat) (R : List (Int × Int)) (rv ev fv : Value) (w : World) : Prop :=
  ∃ (q : Nat) (o : Obj) (v : Value) (R' : List (Int × Int)) (n : Int), rv = v ∧ ev = .int .i64 n ∧ fv = .int .i64 n ∧ R'.length ≤ R.length + 1 ∧ Half W b q o v R' R' w

set_option maxHeartbeats 4000000 in
set_option maxRecDepth 100000 in
theorem plays_any (v : Value) (l : List (Int × Int × Int)) (w : World) (hL : LaidAt w) (ho : OpsAt w v l) :
    Calls Tryd.prog 3 #[v] w fun e w' => e = .returned (.bool true) ∧ Below w.heap.size w w' := by
  have HOW := Lib.hid ho
  have HLD := Lib.hid hL
  obtain ⟨p, cap, rfl, hl63, _⟩ := ho
  have hl63' : (l.length : Int) ≤ 9223372036854775807 := by omega
  have HF0 := Lib.hid (show ∃ q o, Half w w.heap.size q o (.slice none 0 0) [] [] (w.alloc (.cells #[.slice none 0 0, .map none] HT_I)) from by
    have hp := hL.pos
    obtain ⟨o, ho⟩ : ∃ o, w.heap[0]? = some o := ⟨_, Array.getElem?_eq_getElem hp⟩
    have hb : Below w.heap.size w (w.alloc (.cells #[.slice none 0 0, .map none] HT_I)) := (Below.refl _ _).alloc (Nat.le_refl _) _
    exact ⟨0, o, ⟨_, hp_new_I (B := w.heap.size) w (Nat.le_refl _), fun g e => by simp [Value.ownBlock] at e, fun e => by omega⟩, World.ownsRow_nil _ _ _ _, List.Pairwise.nil, hb, (hb.block 0 hp).trans ho⟩)
  clear hL
  go_enter Tryd.func3, Tryd.ntmps3
  go_wp2_with fail
  refine (new_I w).mono ?_
  rintro e w1 ⟨rfl, rfl⟩
  go_wp2_with fail
  go_loopw [4, 5] (fun rv iv wr => ∃ (k : Nat) (R : List (Int × Int)) (v : Value) (pr : Option Addr) (cr : Nat), rv = .slice pr R.length cr ∧ iv = .int .i64 k ∧ R.length ≤ k ∧ k ≤ 400 ∧ k ≤ l.length ∧ Hid (∃ q o, Half w w.heap.size q o (.slice pr R.length cr) R R wr)) (fun _ iv _ => l.length - (intOf iv).toNat)
  case atStart => exact ⟨0, [], .nilIface, none, 0, rfl, rfl, by simp, by omega, by omega, HF0⟩
  case round =>
    obtain ⟨k, R, _, pr, cr, rfl, rfl, hRk, hk4, hkl, HF⟩ := hrel
    clear HF0
    by_cases hlt : k < l.length
    · by_cases hlt4 : k < 400
      · have hlt' : (k : Int) < (l.length : Int) := by omega
        have hlt4' : (k : Int) < 400 := by omega
        obtain ⟨⟨k0, id, key⟩, hq⟩ : ∃ q, l[k]? = some q := ⟨_, List.getElem?_eq_getElem hlt⟩
        obtain ⟨q0, o0, hh⟩ := HF.out
        obtain ⟨p', cap', e1, _, hc2⟩ := HOW.out.below hh.below
        obtain ⟨b, off, rfl, c0, c1, c2, hid⟩ := hc2 k k0 id key hq
        injection e1 with e1 _ e3
        subst e1
        have HH := Lib.hid (hh.box #[.int .i64 k0, .int .i64 id, .int .i64 key] OT)
        have HID := Lib.hid hid
        have hR4 : R.length ≤ 399 := by omega
        clear hc2 hq e3 hh hid HF
        go_upto_block 2 with fail
        go_cut [4, 7, 8] (fun rv ev fv wx => Acted w w.heap.size R rv ev fv wx)
        case first =>
          have HND := Lib.hid HH.out.nodup
          by_cases e0 : k0 = 0
          · subst e0
            rcases there_or R id with ⟨i, hi, he⟩ | hno
            · have HE := Lib.hid he
              clear he
              go_wp2_with fail
              refine (c_push_in HH.out hi HE.out key).mono ?_
              rintro e w2 ⟨rfl, h2⟩
              have q1 : w2.cell? ⟨wr.heap.size, 1, none⟩ = some (.int .i64 id) := h2.cell 1
              have q2 : w2.cell? ⟨wr.heap.size, 2, none⟩ = some (.int .i64 key) := h2.cell 2
              have H2 := Lib.hid h2
              clear h2
              go_wp2_with fail
              refine (c_nume HLD.out H2.out 1).mono ?_
              rintro e w3 ⟨rfl, h3⟩
              clear q1 q2
              have q1 : w3.cell? ⟨wr.heap.size, 1, none⟩ = some (.int .i64 id) := h3.cell 1
              have q2 : w3.cell? ⟨wr.heap.size, 2, none⟩ = some (.int .i64 key) := h3.cell 2
              have H3 := Lib.hid h3
              clear h3
              go_wp2_with fail
              refine (r_push_in H3.out hi HE.out key (by omega)).mono ?_
              rintro e w4 ⟨v4, rfl, h4⟩
              have H4 := Lib.hid h4
              clear h4 q1 q2
              go_wp2_with fail
              go_meet
              exact ⟨_, _, v4, R, 1, rfl, rfl, rfl, by omega, H4.out⟩
            · have HNO := Lib.hid hno
              clear hno
              go_wp2_with fail
              refine (c_push_new HH.out HID.out HNO.out key (by omega)).mono ?_
              rintro e w2 ⟨rfl, h2⟩
              have q1 : w2.cell? ⟨wr.heap.size, 1, none⟩ = some (.int .i64 id) := h2.cell 1
              have q2 : w2.cell? ⟨wr.heap.size, 2, none⟩ = some (.int .i64 key) := h2.cell 2
              have H2 := Lib.hid h2
              clear h2
              go_wp2_with fail
              refine (c_num H2.out).mono ?_
              rintro e w3 ⟨rfl, h3⟩
              clear q1 q2
              have q1 : w3.cell? ⟨wr.heap.size, 1, none⟩ = some (.int .i64 id) := h3.cell 1
              have q2 : w3.cell? ⟨wr.heap.size, 2, none⟩ = some (.int .i64 key) := h3.cell 2
              have H3 := Lib.hid h3
              clear h3
              go_wp2_with fail
              refine (r_push_new H3.out HNO.out (by omega)).mono ?_
              rintro e w4 ⟨v4, R4, rfl, h4, hl4⟩
              have H4 := Lib.hid h4
              clear h4 q1 q2
              go_wp2_with fail
              go_meet
              exact ⟨_, _, v4, R4, 0, rfl, rfl, rfl, by omega, H4.out⟩
          by_cases e2 : k0 = 2
          · subst e2
            rcases there_or R id with ⟨i, hi, he⟩ | hno
            · have HE := Lib.hid he
              clear he
              go_wp2_with fail
              refine (c_move_in HH.out hi HE.out key).mono ?_
              rintro e w2 ⟨rfl, h2⟩
              have q1 : w2.cell? ⟨wr.heap.size, 1, none⟩ = some (.int .i64 id) := h2.cell 1
              have q2 : w2.cell? ⟨wr.heap.size, 2, none⟩ = some (.int .i64 key) := h2.cell 2
              have H2 := Lib.hid h2
              clear h2
              go_wp2_with fail
              refine (c_num H2.out).mono ?_
              rintro e w3 ⟨rfl, h3⟩
              clear q1 q2
              have q1 : w3.cell? ⟨wr.heap.size, 1, none⟩ = some (.int .i64 id) := h3.cell 1
              have q2 : w3.cell? ⟨wr.heap.size, 2, none⟩ = some (.int .i64 key) := h3.cell 2
              have H3 := Lib.hid h3
              clear h3
              go_wp2_with fail
              refine (r_move_in H3.out HND.out (by omega) hi HE.out).mono ?_
              rintro e w4 ⟨v4, R4, rfl, h4, hl4⟩
              have H4 := Lib.hid h4
              clear h4 q1 q2
              go_wp2_with fail
              go_meet
              exact ⟨_, _, v4, R4, 0, rfl, rfl, rfl, by omega, H4.out⟩
            · have HNO := Lib.hid hno
              clear hno
              go_wp2_with fail
              refine (c_move_no HH.out HID.out HNO.out key).mono ?_
              rintro e w2 ⟨rfl, h2⟩
              have q1 : w2.cell? ⟨wr.heap.size, 1, none⟩ = some (.int .i64 id) := h2.cell 1
              have q2 : w2.cell? ⟨wr.heap.size, 2, none⟩ = some (.int .i64 key) := h2.cell 2
              have H2 := Lib.hid h2
              clear h2
              go_wp2_with fail
              refine (c_nume HLD.out H2.out 50).mono ?_
              rintro e w3 ⟨rfl, h3⟩
              clear q1 q2
              have q1 : w3.cell? ⟨wr.heap.size, 1, none⟩ = some (.int .i64 id) := h3.cell 1
              have q2 : w3.cell? ⟨wr.heap.size, 2, none⟩ = some (.int .i64 key) := h3.cell 2
              have H3 := Lib.hid h3
              clear h3
              go_wp2_with fail
              refine (r_move_no H3.out (by omega) HNO.out key).mono ?_
              rintro e w4 ⟨v4, rfl, h4⟩
              have H4 := Lib.hid h4
              clear h4 q1 q2
              go_wp2_with fail
              go_meet
              exact ⟨_, _, v4, R, 50, rfl, rfl, rfl, by omega, H4.out⟩
          by_cases e3 : k0 = 3
          · subst e3
            rcases there_or R id with ⟨i, hi, he⟩ | hno
            · have HE := Lib.hid he
              clear he
              go_wp2_with fail
              refine (c_drop_in HH.out hi HE.out).mono ?_
              rintro e w2 ⟨rfl, h2⟩
              have q1 : w2.cell? ⟨wr.heap.size, 1, none⟩ = some (.int .i64 id) := h2.cell 1
              have q2 : w2.cell? ⟨wr.heap.size, 2, none⟩ = some (.int .i64 key) := h2.cell 2
              have H2 := Lib.hid h2
              clear h2
              go_wp2_with fail
              refine (c_num H2.out).mono ?_
              rintro e w3 ⟨rfl, h3⟩
              clear q1 q2
              have q1 : w3.cell? ⟨wr.heap.size, 1, none⟩ = some (.int .i64 id) := h3.cell 1
              have q2 : w3.cell? ⟨wr.heap.size, 2, none⟩ = some (.int .i64 key) := h3.cell 2
              have H3 := Lib.hid h3
              clear h3
              go_wp2_with fail
              refine (r_drop_in H3.out HND.out (by omega) hi HE.out (List.Perm.refl _)).mono ?_
              rintro e w4 ⟨v4, R4, rfl, h4, hl4⟩
              have H4 := Lib.hid h4
              clear h4 q1 q2
              go_wp2_with fail
              go_meet
              exact ⟨_, _, v4, R4, 0, rfl, rfl, rfl, by omega, H4.out⟩
            · have HNO := Lib.hid hno
              clear hno
              go_wp2_with fail
              refine (c_drop_no HH.out HID.out HNO.out).mono ?_
              rintro e w2 ⟨rfl, h2⟩
              have q1 : w2.cell? ⟨wr.heap.size, 1, none⟩ = some (.int .i64 id) := h2.cell 1
              have q2 : w2.cell? ⟨wr.heap.size, 2, none⟩ = some (.int .i64 key) := h2.cell 2
              have H2 := Lib.hid h2
              clear h2
              go_wp2_with fail
              refine (c_nume HLD.out H2.out 50).mono ?_
              rintro e w3 ⟨rfl, h3⟩
              clear q1 q2
              have q1 : w3.cell? ⟨wr.heap.size, 1, none⟩ = some (.int .i64 id) := h3.cell 1
              have q2 : w3.cell? ⟨wr.heap.size, 2, none⟩ = some (.int .i64 key) := h3.cell 2
              have H3 := Lib.hid h3
              clear h3
              go_wp2_with fail
              refine (r_drop_no H3.out (by omega) HNO.out).mono ?_
              rintro e w4 ⟨v4, rfl, h4⟩
              have H4 := Lib.hid h4
              clear h4 q1 q2
              go_wp2_with fail
              go_meet
              exact ⟨_, _, v4, R, 50, rfl, rfl, rfl, by omega, H4.out⟩
          by_cases e1 : k0 = 1
          · subst e1
            rcases R with _ | ⟨⟨xi, xk⟩, r⟩
            · go_wp2_with fail
              refine (c_pop_no HH.out).mono ?_
              rintro e w2 ⟨rfl, h2⟩
              have H2 := Lib.hid h2
              clear h2
              go_wp2_with fail
              refine (r_first_no H2.out).mono ?_
              rintro e w3 ⟨rfl, h3⟩
              have H3 := Lib.hid h3
              clear h3
              go_wp2_with fail
              refine (r_drop_no H3.out (by simp) (fun e he => by simp at he)).mono ?_
              rintro e w4 ⟨v4, rfl, h4⟩
              have H4 := Lib.hid h4
              clear h4
              go_wp2_with fail
              go_meet
              exact ⟨_, _, v4, [], 0, rfl, rfl, rfl, by simp, H4.out⟩
            · go_wp2_with fail
              refine (c_pop HH.out).mono ?_
              rintro e w2 ⟨rfl, h2⟩
              have H2 := Lib.hid h2
              clear h2
              go_wp2_with fail
              refine (r_first H2.out (by omega)).mono ?_
              rintro e w3 ⟨rfl, h3⟩
              have H3 := Lib.hid h3
              clear h3
              go_wp2_with fail
              refine (r_drop_in H3.out HND.out (by omega) (i := 0) (by simp) rfl (List.Perm.refl _)).mono ?_
              rintro e w4 ⟨v4, R4, rfl, h4, hl4⟩
              have H4 := Lib.hid h4
              clear h4
              go_wp2_with fail
              go_meet
              exact ⟨_, _, v4, R4, 0, rfl, rfl, rfl, by omega, H4.out⟩
          by_cases e5 : k0 = 5
          · subst e5
            rcases there_or R id with ⟨i, hi, he⟩ | hno
            · have HE := Lib.hid he
              clear he
              have HC1 := Lib.hid (c_key_in HH.out hi HE.out)
              have HC2 := fun (w2 : World) (h : Half w w.heap.size wr.heap.size (.cells #[.int .i64 5, .int .i64 id, .int .i64 key] OT (0, 0)) (.slice pr R.length cr) R R w2) => Lib.hid (r_key_in h (by omega) hi HE.out)
              generalize R[i].2 = y at HC1 HC2
              go_wp2_with fail
              refine HC1.out.mono ?_
              rintro e w2 ⟨rfl, h2⟩
              have q1 : w2.cell? ⟨wr.heap.size, 1, none⟩ = some (.int .i64 id) := h2.cell 1
              have HC3 := HC2 w2 h2
              clear h2 HC2
              go_wp2_with fail
              refine HC3.out.mono ?_
              rintro e w3 ⟨rfl, h3⟩
              have H3 := Lib.hid h3
              clear h3 q1
              go_wp2_with fail
              go_meet
              exact ⟨_, _, _, R, 0, rfl, rfl, rfl, by omega, H3.out⟩
            · have HNO := Lib.hid hno
              clear hno
              go_wp2_with fail
              refine (c_key_no HH.out HID.out HNO.out).mono ?_
              rintro e w2 ⟨rfl, h2⟩
              have q1 : w2.cell? ⟨wr.heap.size, 1, none⟩ = some (.int .i64 id) := h2.cell 1
              have H2 := Lib.hid h2
              clear h2
              go_wp2_with fail
              refine (r_key_no H2.out (by omega) HNO.out).mono ?_
              rintro e w3 ⟨rfl, h3⟩
              have H3 := Lib.hid h3
              clear h3 q1
              go_wp2_with fail
              go_meet
              exact ⟨_, _, _, R, 0, rfl, rfl, rfl, by omega, H3.out⟩
          have n0 : (k0 == 0) = false := by simpa using e0
          have n2 : (k0 == 2) = false := by simpa using e2
          have n3 : (k0 == 3) = false := by simpa using e3
          have n1 : (k0 == 1) = false := by simpa using e1
          have n5 : (k0 == 5) = false := by simpa using e5
          clear e0 e1 e2 e3 e5
          go_wp2_with fail
          go_meet
          exact ⟨_, _, _, R, 0, rfl, rfl, rfl, by omega, HH.out⟩
        case rest =>
          obtain ⟨q, o, v5, R5, n, rfl, rfl, rfl, hl5, h5⟩ := hcut
          obtain ⟨p5, c5, rfl, _⟩ := own_small h5.its
          have H5 := Lib.hid h5
          clear h5 HH HID c0 c1 c2
          rcases R5 with _ | ⟨⟨xi, xk⟩, r⟩
          · go_wp2_with fail
            refine (c_min_no H5.out).mono ?_
            rintro e w6 ⟨rfl, h6⟩
            have H6 := Lib.hid h6
            clear h6
            go_wp2_with fail
            refine (r_first_no H6.out).mono ?_
            rintro e w7 ⟨rfl, h7⟩
            have H7 := Lib.hid h7
            clear h7
            go_wp2_with fail
            refine (c_len H7.out).mono ?_
            rintro e w8 ⟨rfl, rfl⟩
            go_wp2_with fail
            go_roundw
            case rel => exact ⟨k + 1, [], .nilIface, p5, c5, rfl, by go_num, by simp, by omega, by omega, Lib.hid ⟨_, _, H7.out⟩⟩
            case measure => simp [intOf]; omega
          · have hr5 : r.length ≤ 399 := by simp at hl5; omega
            have hk5 : r.length + 1 ≤ k + 1 := by simp at hl5; omega
            go_wp2_with fail
            refine (c_min H5.out).mono ?_
            rintro e w6 ⟨rfl, h6⟩
            have H6 := Lib.hid h6
            clear h6
            go_wp2_with fail
            refine (r_first H6.out (by simp; omega)).mono ?_
            rintro e w7 ⟨rfl, h7⟩
            have H7 := Lib.hid h7
            clear h7
            go_wp2_with fail
            refine (c_len H7.out).mono ?_
            rintro e w8 ⟨rfl, rfl⟩
            go_wp2_with fail
            go_roundw
            case rel => exact ⟨k + 1, (xi, xk) :: r, .nilIface, p5, c5, rfl, by go_num, by simpa using hk5, by omega, by omega, Lib.hid ⟨_, _, H7.out⟩⟩
            case measure => simp [intOf]; omega
      · have hg3 : decide ((k : Int) < 400) = false := decide_eq_false (by omega)
        have hlt' : (k : Int) < (l.length : Int) := by omega
        clear hlt4
        have HA := Lib.hid (show Calls Tryd.prog 19 #[.pointer (some ⟨w.heap.size, 0, none⟩)] wr (fun e w' => ∃ v2, e = .returned v2 ∧ Lst (fun _ => False) w' v2 (ints (R.map (·.1))) ∧ Its w' (.slice pr R.length cr) R ∧ Below w.heap.size w w') from by
          obtain ⟨q0, o0, ⟨S, h1, _⟩, h2, h3, h4, _⟩ := HF.out
          exact (all_I h1 R (List.Perm.refl _) h3).mono fun e w' ⟨v2, he, hown, hb⟩ => ⟨v2, he, Lst.of_own hown (by simp [ints]) (by omega) (fun _ _ _ k => k), h2.below hb, bnext h4 hb⟩)
        have hR4 : R.length ≤ 400 := by omega
        clear HF hRk hk4 hkl
        go_wp2_with fail
        refine HA.out.mono ?_
        rintro e w2 ⟨v2, rfl, hv2, hi2, hb2⟩
        have HI := Lib.hid (ids_any w2 _ R hi2 (by omega))
        have HV2 := Lib.hid hv2
        have HB2 := Lib.hid hb2
        clear hv2 hi2 hb2 HA
        go_wp2_with fail
        refine HI.out.mono ?_
        rintro e w3 ⟨v3, rfl, hown3, hb3⟩
        have HS := Lib.hid (same_yes w3 v2 v3 (R.map (·.1)) (HV2.out.below hb3) (Lst.of_own hown3 (by simp [ints]) (by omega) (fun _ _ _ k => k)) (by simp; omega))
        have HB3 := Lib.hid (bnext HB2.out hb3)
        clear hown3 hb3 HI
        go_wp2_with fail
        refine HS.out.mono ?_
        rintro e w4 ⟨rfl, hb4⟩
        have HB4 := Lib.hid (bnext HB3.out hb4)
        have HSU := Lib.hid (sure_any w4)
        clear hb4 HS
        go_wp2_with fail
        refine HSU.out.mono ?_
        rintro e w5 ⟨rfl, hb5⟩
        have HB5 := Lib.hid (bnext HB4.out hb5)
        clear hb5
        go_wp2_with fail
        go_ret
        exact ⟨rfl, HB5.out⟩
    · have hg3 : decide (k < l.length) = false := decide_eq_false hlt
      clear hlt
      have HA := Lib.hid (show Calls Tryd.prog 19 #[.pointer (some ⟨w.heap.size, 0, none⟩)] wr (fun e w' => ∃ v2, e = .returned v2 ∧ Lst (fun _ => False) w' v2 (ints (R.map (·.1))) ∧ Its w' (.slice pr R.length cr) R ∧ Below w.heap.size w w') from by
        obtain ⟨q0, o0, ⟨S, h1, _⟩, h2, h3, h4, _⟩ := HF.out
        exact (all_I h1 R (List.Perm.refl _) h3).mono fun e w' ⟨v2, he, hown, hb⟩ => ⟨v2, he, Lst.of_own hown (by simp [ints]) (by omega) (fun _ _ _ k => k), h2.below hb, bnext h4 hb⟩)
      have hR4 : R.length ≤ 400 := by omega
      clear HF hRk hk4 hkl
      go_wp2_with fail
      refine HA.out.mono ?_
      rintro e w2 ⟨v2, rfl, hv2, hi2, hb2⟩
      have HI := Lib.hid (ids_any w2 _ R hi2 (by omega))
      have HV2 := Lib.hid hv2
      have HB2 := Lib.hid hb2
      clear hv2 hi2 hb2 HA
      go_wp2_with fail
      refine HI.out.mono ?_
      rintro e w3 ⟨v3, rfl, hown3, hb3⟩
      have HS := Lib.hid (same_yes w3 v2 v3 (R.map (·.1)) (HV2.out.below hb3) (Lst.of_own hown3 (by simp [ints]) (by omega) (fun _ _ _ k => k)) (by simp; omega))
      have HB3 := Lib.hid (bnext HB2.out hb3)
      clear hown3 hb3 HI
      go_wp2_with fail
      refine HS.out.mono ?_
      rintro e w4 ⟨rfl, hb4⟩
      have HB4 := Lib.hid (bnext HB3.out hb4)
      have HSU := Lib.hid (sure_any w4)
      clear hb4 HS
      go_wp2_with fail
      refine HSU.out.mono ?_
      rintro e w5 ⟨rfl, hb5⟩
      have HB5 := Lib.hid (bnext HB4.out hb5)
      clear hb5
      go_wp2_with fail
      go_ret
      exact ⟨rfl, HB5.out⟩
end Go.Proofs.YtodcnlmodoahjaaDoor
