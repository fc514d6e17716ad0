/- The walk of TreePlays: whatever is done, in every order, it answers true; no condition but the listed variable. -/
import Derived.Test.YtlcdbblbepndoaaDoorVPlayA
import Derived.Test.YtlcdbblbepndoaaDoorVOpens
import Derived.Deep.CutBlock
import Derived.Deep.CutRange
import Derived.Deep.DeepCutAuto
import Derived.Deep.RegionHeld3
namespace Go.Proofs.YtlcdbblbepndoaaDoor
open Go.RowKit Tr
theorem PlayV.start {T : Nat → Prop} {w w2 : World} {A : Tab} {X : Sh} {bt b : Nat} {s : TS} {g cap ln : Nat} {k0 : Int} (t : TypeId) (hR : Rel A X) (hk : A.kind = k0) (hl : (nl A X).length = ln) (ht : TR T w.heap.size w2 A bt b) (hs : RS T w2 A X s g cap) (hb : Below w.heap.size w w2) (htl : ∀ x, T x → w.heap.size ≤ x ∧ x < w2.heap.size) :
    PlayV T w (w2.alloc (.cells (tcells k0 s g cap ln) t)) A X bt b w2.heap.size k0 s g cap ln := by
  have hb2 : Below w2.heap.size w2 (w2.alloc (.cells (tcells k0 s g cap ln) t)) := (Below.refl _ _).alloc (Nat.le_refl _) _
  have hn := has_new w2 (.cells (tcells k0 s g cap ln) t) _ rfl
  have hs2 : w2.heap.size < (w2.alloc (.cells (tcells k0 s g cap ln) t)).heap.size := by simp
  refine ⟨hR, hk, hl, ht.below hb2, (hs.mono (T := fun x => T x ∨ x = w2.heap.size) (fun x hx k => by rcases k with k | k; exact k; omega)).below hb2, has_cell hn 0, has_cell hn 1, has_cell hn 2, has_cell hn 3, has_cell hn 4, fun j => has_free hn j, bnext hb hb2, hs2, hb.size, fun k => by have := (htl _ k).2; omega, fun e => by have := ht.lt; omega, fun x hx => ⟨(htl x hx).1, by have := (htl x hx).2; omega⟩⟩
abbrev opT : TypeId := 35
theorem op_new (w : World) (k h x : Int) : ∀ W, W = w.alloc (.cells #[.int .i64 k, .int .i64 h, .int .i64 x] opT) → Below w.heap.size w W ∧ w.heap.size < W.heap.size ∧ W.cell? ⟨w.heap.size, 0, none⟩ = some (.int .i64 k) ∧ W.cell? ⟨w.heap.size, 1, none⟩ = some (.int .i64 h) ∧ W.cell? ⟨w.heap.size, 2, none⟩ = some (.int .i64 x) := by
  rintro W rfl
  have hn := has_new w (.cells #[.int .i64 k, .int .i64 h, .int .i64 x] opT) _ rfl
  exact ⟨(Below.refl _ _).alloc (Nat.le_refl _) _, by simp, has_cell hn 0, has_cell hn 1, has_cell hn 2⟩
theorem undrew {w w' : World} (h : Below w.drew.heap.size w.drew w') : Below w.heap.size w w' := ⟨h.os, h.tape, h.output, h.size, h.block⟩
theorem row_head {w w' : World} {L : List Int} {z : Int} (h0 : L[0]? = some z) {e : Ending} (h : RowPost w L e w') : ∃ g cap, e = .returned (.slice (some ⟨g, 0, none⟩) L.length cap) ∧ OwnH 0 w' (.slice (some ⟨g, 0, none⟩) L.length cap) L ∧ w'.cell? ⟨g, 0, none⟩ = some (.int .i64 z) ∧ Below w.heap.size w w' := by
  obtain ⟨v, rfl, ho, hb⟩ := h
  obtain ⟨hl, hz⟩ := List.getElem?_eq_some_iff.1 h0
  obtain ⟨g, cap, cur, rfl, _, _⟩ := own_block ho hl
  have := World.ownsRow.cells (g := g) ho rfl 0 (.int .i64 z) (by simp [ints, h0])
  rw [addr_add, Nat.zero_add] at this
  exact ⟨g, cap, rfl, ho.base (Nat.zero_le _), this, hb⟩
/-- Both trees abreast somehow. -/
def SomeV (T : Nat → Prop) (w : World) (bt b R : Nat) (wx : World) : Prop := ∃ (A : Tab) (X : Sh) (s : TS) (g cap ln : Nat), PlayV T w wx A X bt b R 1 s g cap ln
set_option maxHeartbeats 4000000 in
set_option maxRecDepth 100000 in
theorem plays_any (v : Value) (l : List (Int × Int × Int)) (w : World) (hv : OpsAt w v l) (hl : LaidAt w) : Calls Tryd.prog 3 #[v] w fun e w' => e = .returned (.bool true) ∧ Below w.heap.size w w' := by
  have HN := Lib.hid (fun w => newT_any w)
  have HM := Lib.hid (fun S w hS => rnewT_any S w hS)
  have HV := Lib.hid (fun w1 (hb : Below w.heap.size w w1) => hv.below hb)
  have HL := Lib.hid (fun w1 (hb : Below w.heap.size w w1) => hl.below hb)
  obtain ⟨pl, cl, rfl, hm, hdrop⟩ := hv
  clear hl hdrop
  go_enter Tryd.func3, Tryd.ntmps3
  go_wp2_with fail
  refine (HN.out _).mono ?_
  rintro e w1 ⟨T, bt, b, rfl, ht, hb⟩
  have HT := Lib.hid (show TR T w.heap.size w1 A0 bt b from ht)
  have HB := Lib.hid hb
  have HTL := Lib.hid ht.p.lt
  clear ht hb
  go_wp2_with fail
  refine (HM.out T w1 (fun x hx => (HTL.out x hx).2)).mono ?_
  rintro e w2 ⟨s, g, cap, rfl, hrs, hb2⟩
  obtain ⟨ln, hln⟩ : ∃ z, (nl A0 X0).length = z := ⟨_, rfl⟩
  have hk0 : A0.kind = 1 := rel0.kind
  rw [hln, hk0]
  have HPV := Lib.hid (fun t => PlayV.start t rel0 hk0 hln (HT.out.below hb2) hrs (bnext HB.out hb2) (fun x hx => (⟨(HTL.out x hx).1, Nat.lt_of_lt_of_le (HTL.out x hx).2 hb2.size⟩ : w.heap.size ≤ x ∧ x < w2.heap.size)))
  clear hrs hb2 hln hk0 HT HB HTL HN HM
  go_upto_block 0 with fail
  have HP := Lib.hid (HPV.out 31)
  clear HPV
  generalize (w2.alloc (.cells (tcells 1 s g cap ln) 31)) = w3 at *
  generalize hR : w2.heap.size = R at *
  clear hR
  go_cut [] (fun wx => Hid (SomeV T w bt b R wx))
  case first =>
    go_wp2_with fail
    go_loopw [5] (fun iv wr => ∃ (k : Nat), k ≤ l.length ∧ iv = .int .i64 k ∧ Hid (SomeV T w bt b R wr)) (fun iv _ => l.length - (intOf iv).toNat)
    case atStart => exact ⟨0, Nat.zero_le _, rfl, Lib.hid ⟨_, _, _, _, _, _, HP.out⟩⟩
    case round =>
      clear HP
      obtain ⟨k, hk, rfl, HS⟩ := hrel
      by_cases hlt : k < l.length ∧ k < 300
      · have hlt1 := hlt.1
        have hlt2 : (k : Int) < 300 := by omega
        have hlt3 : (k : Int) < (l.length : Int) := by omega
        have k0 : (0 : Int) ≤ (k : Int) := by omega
        obtain ⟨A, X, s', g', cap', ln', hp⟩ := HS.out
        have HP := Lib.hid hp
        clear hp HS
        obtain ⟨_, _, hsl, _, hcs⟩ := HV.out wr HP.out.bel
        injection hsl with hs1 hs2 hs3
        subst hs1 hs3
        obtain ⟨q, hq⟩ : ∃ q, q = l[k] := ⟨_, rfl⟩
        obtain ⟨gb, off, rfl, c0, c1, c2⟩ := hcs k q.1 q.2.1 q.2.2 (by rw [hq]; simp [hlt1])
        clear hcs hs2
        generalize q.2.1 = y at *
        generalize q.2.2 = z at *
        obtain ⟨kd, hkd⟩ : ∃ kd, kd = q.1 := ⟨_, rfl⟩
        rw [← hkd] at c0
        clear hq hkd hlt
        go_upto_region 9 with fail
        generalize hW4 : wr.alloc (.cells #[.int .i64 kd, .int .i64 y, .int .i64 z] 35) = w4
        obtain ⟨hb4, hs4, o0, o1, o2⟩ := op_new wr kd y z _ hW4.symm
        clear hW4
        have HP4 := Lib.hid (HP.out.below hb4)
        have hnT : ¬ T wr.heap.size := fun h => by have := (HP.out.tl _ h).2; omega
        clear c0 c1 c2 hb4
        by_cases h0 : kd = 0
        · subst h0
          obtain ⟨A', X', v, n, hAB⟩ := add_both HP.out.rel y
          have HA := Lib.hid (hAB.a T w.heap.size bt b)
          have HD := Lib.hid (show ∀ W, RS (fun x => T x ∨ x = R) W A X s' g' cap' → (∀ x, (T x ∨ x = R) → x < W.heap.size) → Calls Tryd.prog 7 #[rtv 1 s' g' cap' ln', .int .i64 y] W (RPost (fun x => T x ∨ x = R) W A' X' (.int .i64 v) n) from fun W h1 h2 => by
            have := hAB.b _ s' g' cap' W h1 h2
            rw [HP.out.kd, HP.out.nlen] at this
            exact this)
          have HR := Lib.hid hAB.rel
          clear hAB
          go_wp2_with fail
          refine (HA.out _ HP4.out.tr).mono ?_
          rintro e w5 ⟨rfl, ht5, hk5⟩
          have HH := Lib.hid (HP4.out.act ht5 hk5)
          have q1 : w5.cell? ⟨wr.heap.size, 1, none⟩ = _ := (hk5.cell (p := ⟨wr.heap.size, 1, none⟩) hs4 hnT).trans o1
          have d0 := HH.out.d0
          have d1 := HH.out.d1
          have d2 := HH.out.d2
          have d3 := HH.out.d3
          have d4 := HH.out.d4
          have hRl := HH.out.lt
          clear ht5 hk5 o0 o1 o2
          go_wp2_with fail
          refine (HD.out _ HH.out.rs (fun x hx => by rcases hx with hx | rfl; exact (HH.out.tl x hx).2; exact HH.out.lt)).mono ?_
          rintro e w6 ⟨s2, g2, cap2, rfl, hrs6, hb6⟩
          rw [HR.out.kind]
          have hR6 : R < w6.heap.size := Nat.lt_of_lt_of_le hRl hb6.size
          have hp := fun W => HH.out.turn (w5 := W) (s2 := s2) (g2 := g2) (cap2 := cap2) HR.out HR.out.kind
          have HBX := Lib.hid hb6
          have HRX := Lib.hid hrs6
          clear hb6 hrs6
          generalize (nl A' X').length = ln2 at *
          have HPX := Lib.hid hp
          clear hp
          go_upto_region 15 with fail
          generalize hWx : w6.alloc (.cells (tcells 1 s2 g2 cap2 ln2) 31) = wx
          have hxn := has_new w6 (.cells (tcells 1 s2 g2 cap2 ln2) 31) _ rfl
          rw [hWx] at hxn
          have hbx : Below w6.heap.size w6 wx := by rw [← hWx]; exact (Below.refl _ _).alloc (Nat.le_refl _) _
          have HPN := Lib.hid (HPX.out wx (HRX.out.below hbx) (bnext HBX.out hbx))
          have x0 : wx.cell? ⟨w6.heap.size, 0, none⟩ = _ := has_cell hxn 0
          have x1 : wx.cell? ⟨w6.heap.size, 1, none⟩ = _ := has_cell hxn 1
          have x2 : wx.cell? ⟨w6.heap.size, 2, none⟩ = _ := has_cell hxn 2
          have x3 : wx.cell? ⟨w6.heap.size, 3, none⟩ = _ := has_cell hxn 3
          have x4 : wx.cell? ⟨w6.heap.size, 4, none⟩ = _ := has_cell hxn 4
          have e0 : wx.cell? ⟨R, 0, none⟩ = _ := (hbx.cell hR6).trans ((HBX.out.cell hRl).trans d0)
          have e1 : wx.cell? ⟨R, 1, none⟩ = _ := (hbx.cell hR6).trans ((HBX.out.cell hRl).trans d1)
          have e2 : wx.cell? ⟨R, 2, none⟩ = _ := (hbx.cell hR6).trans ((HBX.out.cell hRl).trans d2)
          have e3 : wx.cell? ⟨R, 3, none⟩ = _ := (hbx.cell hR6).trans ((HBX.out.cell hRl).trans d3)
          have e4 : wx.cell? ⟨R, 4, none⟩ = _ := (hbx.cell hR6).trans ((HBX.out.cell hRl).trans d4)
          have f0 : wx.frozen? ⟨R, 0, none⟩ = false := (hbx.frozen hR6).trans ((HBX.out.frozen hRl).trans (HH.out.fz 0))
          have f1 : wx.frozen? ⟨R, 1, none⟩ = false := (hbx.frozen hR6).trans ((HBX.out.frozen hRl).trans (HH.out.fz 1))
          have f2 : wx.frozen? ⟨R, 2, none⟩ = false := (hbx.frozen hR6).trans ((HBX.out.frozen hRl).trans (HH.out.fz 2))
          have f3 : wx.frozen? ⟨R, 3, none⟩ = false := (hbx.frozen hR6).trans ((HBX.out.frozen hRl).trans (HH.out.fz 3))
          have f4 : wx.frozen? ⟨R, 4, none⟩ = false := (hbx.frozen hR6).trans ((HBX.out.frozen hRl).trans (HH.out.fz 4))
          have hRw : R < wx.heap.size := Nat.lt_of_lt_of_le hR6 hbx.size
          have hne : R ≠ w6.heap.size := by omega
          clear hWx hxn hbx HPX HRX HBX d0 d1 d2 d3 d4 q1 hRl hR6
          go_wp2_with fail
          refine (num_any n _ ?hl).mono ?_
          case hl => exact HL.out _ HPN.out.bel
          rintro e w7 ⟨rfl, hb7⟩
          have HP7 := Lib.hid (HPN.out.below hb7)
          clear HPN hb7
          go_wp2_with fail
          go_roundw
          case rel => exact ⟨k + 1, by omega, by go_num, Lib.hid ⟨_, _, _, _, _, _, HP7.out⟩⟩
          case measure => simp [intOf]; omega
        · have h0' : (kd == 0) = false := by rw [beq_eq_false_iff_ne]; exact h0
          clear h0
          by_cases h1 : kd = 1
          · subst h1
            obtain ⟨A', X', L, n, hAB⟩ := rem_both HP.out.rel y
            have HA := Lib.hid (hAB.a T w.heap.size bt b)
            have HD := Lib.hid (show ∀ W, RS (fun x => T x ∨ x = R) W A X s' g' cap' → (∀ x, (T x ∨ x = R) → x < W.heap.size) → Calls Tryd.prog 10 #[rtv 1 s' g' cap' ln', .int .i64 y] W (RemB (fun x => T x ∨ x = R) W A' X' L n) from fun W h1 h2 => by
              have := hAB.b _ s' g' cap' W h1 h2
              rw [HP.out.kd, HP.out.nlen] at this
              exact this)
            have HR := Lib.hid hAB.rel
            have hL4 := hAB.len
            clear hAB
            go_wp2_with fail
            refine (HA.out _ HP4.out.tr).mono ?_
            rintro e w5 ⟨va, rfl, ho5, ht5, hk5⟩
            have HH := Lib.hid (HP4.out.act ht5 hk5)
            have q1 : w5.cell? ⟨wr.heap.size, 1, none⟩ = _ := (hk5.cell (p := ⟨wr.heap.size, 1, none⟩) hs4 hnT).trans o1
            have d0 := HH.out.d0
            have d1 := HH.out.d1
            have d2 := HH.out.d2
            have d3 := HH.out.d3
            have d4 := HH.out.d4
            have hRl := HH.out.lt
            have HO5 := Lib.hid ho5
            clear ho5
            clear ht5 hk5 o0 o1 o2
            go_wp2_with fail
            refine (HD.out _ HH.out.rs (fun x hx => by rcases hx with hx | rfl; exact (HH.out.tl x hx).2; exact HH.out.lt)).mono ?_
            rintro e w6 ⟨vb, ho6, s2, g2, cap2, rfl, hrs6, hb6⟩
            rw [HR.out.kind]
            have hR6 : R < w6.heap.size := Nat.lt_of_lt_of_le hRl hb6.size
            have HO5 := Lib.hid (HO5.out.below hb6)
            have HO6 := Lib.hid ho6
            clear ho6
            have hp := fun W => HH.out.turn (w5 := W) (s2 := s2) (g2 := g2) (cap2 := cap2) HR.out HR.out.kind
            have HBX := Lib.hid hb6
            have HRX := Lib.hid hrs6
            clear hb6 hrs6
            generalize (nl A' X').length = ln2 at *
            have HPX := Lib.hid hp
            clear hp
            go_upto_region 20 with fail
            generalize hWx : w6.alloc (.cells (tcells 1 s2 g2 cap2 ln2) 31) = wx
            have hxn := has_new w6 (.cells (tcells 1 s2 g2 cap2 ln2) 31) _ rfl
            rw [hWx] at hxn
            have hbx : Below w6.heap.size w6 wx := by rw [← hWx]; exact (Below.refl _ _).alloc (Nat.le_refl _) _
            have HPN := Lib.hid (HPX.out wx (HRX.out.below hbx) (bnext HBX.out hbx))
            have HO5 := Lib.hid (HO5.out.below hbx)
            have HO6 := Lib.hid (HO6.out.below hbx)
            have x0 : wx.cell? ⟨w6.heap.size, 0, none⟩ = _ := has_cell hxn 0
            have x1 : wx.cell? ⟨w6.heap.size, 1, none⟩ = _ := has_cell hxn 1
            have x2 : wx.cell? ⟨w6.heap.size, 2, none⟩ = _ := has_cell hxn 2
            have x3 : wx.cell? ⟨w6.heap.size, 3, none⟩ = _ := has_cell hxn 3
            have x4 : wx.cell? ⟨w6.heap.size, 4, none⟩ = _ := has_cell hxn 4
            have e0 : wx.cell? ⟨R, 0, none⟩ = _ := (hbx.cell hR6).trans ((HBX.out.cell hRl).trans d0)
            have e1 : wx.cell? ⟨R, 1, none⟩ = _ := (hbx.cell hR6).trans ((HBX.out.cell hRl).trans d1)
            have e2 : wx.cell? ⟨R, 2, none⟩ = _ := (hbx.cell hR6).trans ((HBX.out.cell hRl).trans d2)
            have e3 : wx.cell? ⟨R, 3, none⟩ = _ := (hbx.cell hR6).trans ((HBX.out.cell hRl).trans d3)
            have e4 : wx.cell? ⟨R, 4, none⟩ = _ := (hbx.cell hR6).trans ((HBX.out.cell hRl).trans d4)
            have f0 : wx.frozen? ⟨R, 0, none⟩ = false := (hbx.frozen hR6).trans ((HBX.out.frozen hRl).trans (HH.out.fz 0))
            have f1 : wx.frozen? ⟨R, 1, none⟩ = false := (hbx.frozen hR6).trans ((HBX.out.frozen hRl).trans (HH.out.fz 1))
            have f2 : wx.frozen? ⟨R, 2, none⟩ = false := (hbx.frozen hR6).trans ((HBX.out.frozen hRl).trans (HH.out.fz 2))
            have f3 : wx.frozen? ⟨R, 3, none⟩ = false := (hbx.frozen hR6).trans ((HBX.out.frozen hRl).trans (HH.out.fz 3))
            have f4 : wx.frozen? ⟨R, 4, none⟩ = false := (hbx.frozen hR6).trans ((HBX.out.frozen hRl).trans (HH.out.fz 4))
            have hRw : R < wx.heap.size := Nat.lt_of_lt_of_le hR6 hbx.size
            have hne : R ≠ w6.heap.size := by omega
            clear hWx hxn hbx HPX HRX HBX d0 d1 d2 d3 d4 q1 hRl hR6
            go_wp2_with fail
            refine (lst_same (l := L) ?a1 ?a2 (by omega)).mono ?_
            case a1 => exact (HO5.out.keeps (keeps5 wx R _ _ _ _ _) (fun x e => by have := HP4.out.lt; omega)).base (Nat.zero_le _)
            case a2 => exact (HO6.out.keeps (keeps5 wx R _ _ _ _ _) (fun x e => by have := HH.out.lt; omega)).base (Nat.zero_le _)
            rintro e w7 ⟨rfl, hb7⟩
            have HP7 := Lib.hid (HPN.out.below hb7)
            clear HPN hb7 HO5 HO6
            go_wp2_with fail
            refine (num_any n _ ?hl).mono ?_
            case hl => exact HL.out _ HP7.out.bel
            rintro e w8 ⟨rfl, hb8⟩
            have HP8 := Lib.hid (HP7.out.below hb8)
            clear HP7 hb8
            go_wp2_with fail
            go_roundw
            case rel => exact ⟨k + 1, by omega, by go_num, Lib.hid ⟨_, _, _, _, _, _, HP8.out⟩⟩
            case measure => simp [intOf]; omega
          · have h1' : (kd == 1) = false := by rw [beq_eq_false_iff_ne]; exact h1
            clear h1
            have HA := Lib.hid (fun W (hb : Below w4.heap.size w4 W) => asks_any (k0 := 1) (s := s') HP.out.rel W (HP4.out.tr.below hb) (HP4.out.rs.rd.below hb) (HL.out _ (bnext HP4.out.bel hb)) y z)
            rw [HP.out.nlen] at HA
            have d0 := HP4.out.d0
            have d1 := HP4.out.d1
            have d2 := HP4.out.d2
            have d3 := HP4.out.d3
            have d4 := HP4.out.d4
            go_wp2_with fail
            refine (HA.out _ (Below.refl _ _)).mono ?_
            rintro e w5 ⟨rfl, hb5⟩
            have HP5 := Lib.hid (HP4.out.below hb5)
            clear hb5 d0 d1 d2 d3 d4 o0 o1 o2
            go_wp2_with fail
            go_roundw
            case rel => exact ⟨k + 1, by omega, by go_num, Lib.hid ⟨_, _, _, _, _, _, HP5.out⟩⟩
            case measure => simp [intOf]; omega
      · by_cases h1 : k < l.length
        · have h2 : (300 : Int) ≤ (k : Int) := by omega
          clear hlt
          go_wp2_with fail
          go_meet
          exact HS
        · clear hlt
          go_wp2_with fail
          go_meet
          exact HS
  case rest =>
    obtain ⟨A, X, s', g', cap', ln', hp⟩ := hcut.out
    have HP := Lib.hid hp
    have hRl := hp.lt
    obtain ⟨d0, d1, d2, d3, d4⟩ := (⟨hp.d0, hp.d1, hp.d2, hp.d3, hp.d4⟩ : _ ∧ _ ∧ _ ∧ _ ∧ _)
    clear hp hcut
    have HX := Lib.hid (show ∀ W, Below wc.heap.size wc W → (W.cell? ⟨R, 0, none⟩ = some (.int .i64 1) ∧ W.cell? ⟨R, 1, none⟩ = some (.slice s'.p s'.n s'.c) ∧ W.cell? ⟨R, 2, none⟩ = some (.slice s'.q s'.m s'.d) ∧ W.cell? ⟨R, 3, none⟩ = some (.slice s'.r s'.l s'.e) ∧ W.cell? ⟨R, 4, none⟩ = some (.slice (some ⟨g', 0, none⟩) ln' cap') ∧ Below wc.heap.size wc W) from fun W hb =>
      ⟨(hb.cell hRl).trans d0, (hb.cell hRl).trans d1, (hb.cell hRl).trans d2, (hb.cell hRl).trans d3, (hb.cell hRl).trans d4, hb⟩)
    obtain ⟨L, hL⟩ : ∃ L, L = (X.pt 0).map A.hd := ⟨_, rfl⟩
    have HAL := Lib.hid (fun W (hb : Below wc.heap.size wc W) => all_any HP.out.rel W (HP.out.tr.below hb))
    have HRL := Lib.hid (show ∀ W, Below wc.heap.size wc W → Calls Tryd.prog 14 #[rtv 1 s' g' cap' ln'] W (RowPost W L) from fun W hb => by
      have := rall_any (k0 := 1) (s := s') W (HP.out.rs.rd.below hb)
      rw [HP.out.nlen, ← hL] at this
      exact this)
    rw [← hL] at HAL
    have h64 : L.length ≤ 4096 := by rw [hL, List.length_map]; have := pt_len HP.out.rel.tree HP.out.rel.tree.t0; omega
    have hz : L[0]? = some 1099511627777 := by rw [hL, pt_eq HP.out.rel.tree HP.out.rel.tree.t0, List.map_cons, HP.out.rel.root]; rfl
    have hn0 : 0 < L.length := (List.getElem?_eq_some_iff.1 hz).1
    have HZ := Lib.hid hz
    have HSU := Lib.hid (fun w => sure_any w)
    have HRT := Lib.hid (fun w => root_b bt w)
    clear hL hz
    go_wp2_with fail
    have HBB := Lib.hid (Below.refl wc.heap.size wc)
    clear HX
    go_region_with (first
        | (go_at_call 13; refine (HAL.out _ ?_).mono ?_; (first | exact HBB.out | exact below_drew HBB.out); (intro e w3 hrow; obtain ⟨ga, ca, rfl, hoa, _, hb⟩ := row_head HZ.out hrow; (try replace hb := undrew hb); have HOA := Lib.hid hoa; clear hoa hrow; have d0 := (hb.cell hRl).trans d0; have d1 := (hb.cell hRl).trans d1; have d2 := (hb.cell hRl).trans d2; have d3 := (hb.cell hRl).trans d3; have d4 := (hb.cell hRl).trans d4; have hRl := Nat.lt_of_lt_of_le hRl hb.size; have HBB := Lib.hid (bnext HBB.out hb); clear hb))
        | (go_at_call 14; refine (HRL.out _ ?_).mono ?_; (first | exact HBB.out | exact below_drew HBB.out); (intro e w3 hrow; obtain ⟨gb, cb, rfl, hob, hcb, hb⟩ := row_head HZ.out hrow; (try replace hb := undrew hb); have HOA := Lib.hid (HOA.out.below hb); have HOB := Lib.hid hob; clear hob hrow; have d0 := (hb.cell hRl).trans d0; have d1 := (hb.cell hRl).trans d1; have d2 := (hb.cell hRl).trans d2; have d3 := (hb.cell hRl).trans d3; have d4 := (hb.cell hRl).trans d4; have hRl := Nat.lt_of_lt_of_le hRl hb.size; have HBB := Lib.hid (bnext HBB.out hb); clear hb))
        | (go_at_call 11; (first | refine (lst_same HOA.out HOB.out h64).mono ?_ | refine (lst_same (own_drew HOA.out) (own_drew HOB.out) h64).mono ?_); rintro e w3 ⟨rfl, hb⟩; (try replace hb := undrew hb); have HOA := Lib.hid (HOA.out.below hb); have d0 := (hb.cell hRl).trans d0; have d1 := (hb.cell hRl).trans d1; have d2 := (hb.cell hRl).trans d2; have d3 := (hb.cell hRl).trans d3; have d4 := (hb.cell hRl).trans d4; have hRl := Nat.lt_of_lt_of_le hRl hb.size; have HBB := Lib.hid (bnext HBB.out hb); clear hb)
        | (go_at_call 15; refine (HRT.out _).mono ?_; rintro e w3 ⟨rfl, hb⟩; (try replace hb := undrew hb); have HOA := Lib.hid (HOA.out.below hb); have d0 := (hb.cell hRl).trans d0; have d1 := (hb.cell hRl).trans d1; have d2 := (hb.cell hRl).trans d2; have d3 := (hb.cell hRl).trans d3; have d4 := (hb.cell hRl).trans d4; have hRl := Nat.lt_of_lt_of_le hRl hb.size; have HBB := Lib.hid (bnext HBB.out hb); clear hb)
        | (go_at_call 16; refine (HSU.out _).mono ?_; rintro e w3 ⟨rfl, hb⟩; (try replace hb := undrew hb); have d0 := (hb.cell hRl).trans d0; have d1 := (hb.cell hRl).trans d1; have d2 := (hb.cell hRl).trans d2; have d3 := (hb.cell hRl).trans d3; have d4 := (hb.cell hRl).trans d4; have hRl := Nat.lt_of_lt_of_le hRl hb.size; have HBB := Lib.hid (bnext HBB.out hb); clear hb))
    all_goals
      go_wp2_with fail
      go_ret
      exact ⟨rfl, bnext HP.out.bel HBB.out⟩
end Go.Proofs.YtlcdbblbepndoaaDoor
