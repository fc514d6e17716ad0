/- The law's step: one thing done to both books; no condition but those that each row names. -/
import Derived.Test.YtdbfjcdglcagaaaDoorPApp
import Derived.Deep.RegionLaw
import Derived.Test.YtdbfjcdglcagaaaDoorPInv
import Derived.Test.YtdbfjcdglcagaaaDoorPOpens
import Derived.Test.YtdbfjcdglcagaaaDoorPLawAdds
import Derived.Test.YtdbfjcdglcagaaaDoorPRefE
import Derived.Test.YtdbfjcdglcagaaaDoorPRefG
namespace Go.Proofs.YtdbfjcdglcagaaaDoor
open Go.RowKit Bk

/-- What an act makes of a book. -/
noncomputable def stepB (L : List Ln) (o : Oy) : List Ln :=
  if o.kind = 0 then openB L o.h o.up else if o.kind = 1 then chargeB L o.pn o.pf o.b else if o.kind = 2 then noteB L o.h o.n o.b else if o.kind = 3 then closeB L o.h else loadB L o.h o.a o.c
theorem iv_step {L : List Ln} (hI : Iv L) {w : World} {o : Oy} (ho : OpOk w o) : Iv (stepB L o) := by
  unfold stepB
  split
  · exact iv_open hI ho.2.2.2.1 ho.2.2.2.2.1
  · split
    · exact iv_charge hI _ _ _
    · split
      · exact iv_note hI _ _ _
      · split
        · exact iv_close hI _
        · exact iv_load hI _ _ _
theorem step_len (L : List Ln) (o : Oy) : (stepB L o).length ≤ L.length + 1 := by
  unfold stepB
  split
  · exact open_len _ _ _
  · split
    · exact charge_len _ _ _ _
    · split
      · exact note_len _ _ _ _
      · split
        · exact close_len _ _
        · exact load_len _ _ _ _
/-- Both books in a world. -/
structure Both (w : World) (b mb : Nat) (v : Value) (L : List Ln) : Prop where
  pb : PBk w b mb L
  rb : Lns w v L
  iv : Iv L
  laid : LaidAt w
theorem Both.below {w w' : World} {b mb : Nat} {v : Value} {L : List Ln} (h : Both w b mb v L) (hb : Below w.heap.size w w') : Both w' b mb v L := ⟨h.pb.below hb, h.rb.below hb, h.iv, h.laid.below hb⟩
theorem laid_turn {w w' : World} {mb k : Nat} {F : Int → Option Value} (h : LaidAt w) (hm : VMap Tryd.prog HT w mb F k) (hk : Keeps (fun x => x = mb) w w') : LaidAt w' := by
  unfold LaidAt at h ⊢
  refine (hk.cell (p := ⟨0, 0, none⟩) (cell_lt h) (fun e => ?_)).trans h
  have e4 : 0 = mb := e
  rw [e4, hm.no_cell] at h
  cases h
/-- What the step leaves. -/
def StepPost (w : World) (b mb : Nat) (L' : List Ln) (e : Ending) (w' : World) : Prop := ∃ v', e = .returned (.tuple #[v', .bool true]) ∧ Both w' b mb v' L' ∧ Keeps (fun x => x = mb) w w'
/-- The two acts done, then their errors compared. -/
theorem step_mid {w w1 w2 : World} {b mb : Nat} {v v' : Value} {L L' : List Ln} (h : Both w b mb v L) (hp : PBk w1 b mb L') (hk : Keeps (fun x => x = mb) w w1) (hr : Lns w2 v' L') (hb : Below w1.heap.size w1 w2) (hi : Iv L') : Both w2 b mb v' L' ∧ Keeps (fun x => x = mb) w w2 :=
  ⟨⟨hp.below hb, hr, hi, (laid_turn h.laid h.pb.map hk).below hb⟩, hk.trans (Keeps.of_below hb)⟩
/-- An act's block: what a walk asks of it. -/
theorem op18 {W : World} {g : Nat} {T : TypeId} {u0 u1 u2 u3 u4 u5 u6 u7 u8 u9 u10 u11 u12 u13 u14 u15 u16 u17 : Value} (h : Has W g (.cells #[u0, u1, u2, u3, u4, u5, u6, u7, u8, u9, u10, u11, u12, u13, u14, u15, u16, u17] T)) :
    W.cell? ⟨g, 0, none⟩ = some u0 ∧ W.cell? ⟨g, 1, none⟩ = some u1 ∧ W.cell? ⟨g, 2, none⟩ = some u2 ∧ W.cell? ⟨g, 3, none⟩ = some u3 ∧ W.cell? ⟨g, 4, none⟩ = some u4 ∧ W.cell? ⟨g, 5, none⟩ = some u5 ∧ W.cell? ⟨g, 6, none⟩ = some u6 ∧ W.cell? ⟨g, 7, none⟩ = some u7 ∧ W.cell? ⟨g, 8, none⟩ = some u8 ∧ W.cell? ⟨g, 9, none⟩ = some u9 ∧ W.cell? ⟨g, 10, none⟩ = some u10 ∧ W.cell? ⟨g, 11, none⟩ = some u11 ∧ W.cell? ⟨g, 12, none⟩ = some u12 ∧ W.cell? ⟨g, 13, none⟩ = some u13 ∧ W.cell? ⟨g, 14, none⟩ = some u14 ∧ W.cell? ⟨g, 15, none⟩ = some u15 ∧ W.cell? ⟨g, 16, none⟩ = some u16 ∧ W.cell? ⟨g, 17, none⟩ = some u17 :=
  ⟨has_cell h 0, has_cell h 1, has_cell h 2, has_cell h 3, has_cell h 4, has_cell h 5, has_cell h 6, has_cell h 7, has_cell h 8, has_cell h 9, has_cell h 10, has_cell h 11, has_cell h 12, has_cell h 13, has_cell h 14, has_cell h 15, has_cell h 16, has_cell h 17⟩
theorem has_turn {w w' : World} {g : Nat} {o : Obj} {mb : Nat} (h : Has w g o) (hk : Keeps (fun x => x = mb) w w') (hn : g ≠ mb) : Has w' g o := (hk.block g (has_lt h) hn).trans h
set_option maxHeartbeats 2000000 in
set_option maxRecDepth 100000 in
theorem step_open (w : World) (b mb : Nat) (v : Value) (L : List Ln) (h : Both w b mb v L) (h4 : L.length ≤ 1000) (o : Oy) (ho : OpOk w o) (hk : o.kind = 0) :
    Calls Tryd.prog 9 #[.pointer (some ⟨b, 0, none⟩), v, oV o] w (StepPost w b mb (stepB L o)) := by
  obtain ⟨okind, oh, oup, opv, opn, opf, on, ob, oa, oc⟩ := o
  obtain ⟨hpn, hpf, hpb, hh, hu, hn⟩ := ho
  dsimp only at hk hpn hpf hpb hh hu hn
  subst hk
  have hS : stepB L ⟨0, oh, oup, opv, opn, opf, on, ob, oa, oc⟩ = openB L oh oup := rfl
  rw [hS]
  have HH := Lib.hid h
  have HI := Lib.hid (iv_open h.iv hh hu)
  have HP := Lib.hid (fun W (hb : Below w.heap.size w W) => popen W b mb L (h.pb.below hb) (by omega) oh oup hh hu)
  have HR := Lib.hid (fun W (hr : Lns W v L) => ropen15 W v L hr (by omega) oh oup)
  have HN := Lib.hid (fun W (hg : LaidAt W) => num_errV (openE L oh oup) W hg)
  have HPN := Lib.hid hpn
  generalize openB L oh oup = L' at HP HR HI ⊢
  generalize openE L oh oup = n at HP HR HN
  obtain ⟨W0, hW0⟩ : ∃ W0, W0 = w.alloc (.cells #[.int .i64 0, .int .i64 oh, .int .i64 oup, opv, .int .i64 on, .bool ob, .int .i64 oa.g, .int .i64 oa.o, .int .i64 oa.l, .int .i64 oa.d, .int .i64 oa.c, .int .i64 oa.t, .int .i64 oc.g, .int .i64 oc.o, .int .i64 oc.l, .int .i64 oc.d, .int .i64 oc.c, .int .i64 oc.t] 36) := ⟨_, rfl⟩
  have HB0 := Lib.hid (show Below w.heap.size w W0 from by rw [hW0]; exact below_alloc (Below.refl _ _) _)
  have HX0 := Lib.hid (show Has W0 w.heap.size (.cells #[.int .i64 0, .int .i64 oh, .int .i64 oup, opv, .int .i64 on, .bool ob, .int .i64 oa.g, .int .i64 oa.o, .int .i64 oa.l, .int .i64 oa.d, .int .i64 oa.c, .int .i64 oa.t, .int .i64 oc.g, .int .i64 oc.o, .int .i64 oc.l, .int .i64 oc.d, .int .i64 oc.c, .int .i64 oc.t] 36) from by rw [hW0]; exact has_new _ _ _ rfl)
  have hmb : w.heap.size ≠ mb := by have := h.pb.lt; omega
  have HW0 := Lib.hid hW0
  clear h hh hu hn hpn hpf hS hW0 hpb
  go_enter Tryd.func9, Tryd.ntmps9
  go_wp2_with fail
  rw [← HW0.out]
  refine (HP.out _ HB0.out).mono ?_
  rintro e w1 ⟨rfl, hp1, hk1⟩
  have hk : Keeps (fun x => x = mb) w w1 := (Keeps.of_below HB0.out).trans hk1
  have hx1 := has_turn HX0.out hk1 hmb
  have hr1 := own_turn HH.out.rb HH.out.pb.map hk
  have HG1 := Lib.hid (laid_turn HH.out.laid HH.out.pb.map hk)
  have HP1 := Lib.hid hp1
  have HK1 := Lib.hid hk
  have HR1 := Lib.hid hr1
  obtain ⟨q0, q1, q2, q3, q4, q5, q6, q7, q8, q9, q10, q11, q12, q13, q14, q15, q16, q17⟩ := op18 hx1
  clear hp1 hk1 hk hr1 hx1
  generalize errV n = ev at HN ⊢
  go_wp2_with fail
  refine (HR.out _ HR1.out).mono ?_
  rintro e w2 ⟨v', rfl, hr2, hb2⟩
  have HM := Lib.hid (step_mid HH.out HP1.out HK1.out hr2 hb2 HI.out)
  clear hr2 hb2 q0 q1 q2 q3 q4 q5 q6 q7 q8 q9 q10 q11 q12 q13 q14 q15 q16 q17
  go_wp2_with fail
  refine (HN.out _ HM.out.1.laid).mono ?_
  rintro e w3 ⟨rfl, hb3⟩
  have HB3 := Lib.hid hb3
  clear hb3
  go_wp2_with fail
  go_ret2
  exact ⟨_, rfl, HM.out.1.below HB3.out, HM.out.2.trans (Keeps.of_below HB3.out)⟩
set_option maxHeartbeats 2000000 in
set_option maxRecDepth 100000 in
theorem step_note (w : World) (b mb : Nat) (v : Value) (L : List Ln) (h : Both w b mb v L) (h4 : L.length ≤ 1000) (o : Oy) (ho : OpOk w o) (hk : o.kind = 2) :
    Calls Tryd.prog 9 #[.pointer (some ⟨b, 0, none⟩), v, oV o] w (StepPost w b mb (stepB L o)) := by
  obtain ⟨okind, oh, oup, opv, opn, opf, on, ob, oa, oc⟩ := o
  obtain ⟨hpn, hpf, hpb, hh, hu, hn⟩ := ho
  dsimp only at hk hpn hpf hpb hh hu hn
  subst hk
  have hS : stepB L ⟨2, oh, oup, opv, opn, opf, on, ob, oa, oc⟩ = noteB L oh on ob := rfl
  rw [hS]
  have HH := Lib.hid h
  have HI := Lib.hid (iv_note h.iv oh on ob)
  have HP := Lib.hid (fun W (hb : Below w.heap.size w W) => pnote W b mb L (h.pb.below hb) (by omega) h.iv.inv.dc oh hh on ob)
  have HR := Lib.hid (fun W (hr : Lns W v L) => rnote W v L hr (by omega) h.iv.inv.nd oh on ob)
  have HN := Lib.hid (fun W (hg : LaidAt W) => num_errV (noteE L oh on) W hg)
  have HPN := Lib.hid hpn
  generalize noteB L oh on ob = L' at HP HR HI ⊢
  generalize noteE L oh on = n at HP HR HN
  obtain ⟨W0, hW0⟩ : ∃ W0, W0 = w.alloc (.cells #[.int .i64 2, .int .i64 oh, .int .i64 oup, opv, .int .i64 on, .bool ob, .int .i64 oa.g, .int .i64 oa.o, .int .i64 oa.l, .int .i64 oa.d, .int .i64 oa.c, .int .i64 oa.t, .int .i64 oc.g, .int .i64 oc.o, .int .i64 oc.l, .int .i64 oc.d, .int .i64 oc.c, .int .i64 oc.t] 36) := ⟨_, rfl⟩
  have HB0 := Lib.hid (show Below w.heap.size w W0 from by rw [hW0]; exact below_alloc (Below.refl _ _) _)
  have HX0 := Lib.hid (show Has W0 w.heap.size (.cells #[.int .i64 2, .int .i64 oh, .int .i64 oup, opv, .int .i64 on, .bool ob, .int .i64 oa.g, .int .i64 oa.o, .int .i64 oa.l, .int .i64 oa.d, .int .i64 oa.c, .int .i64 oa.t, .int .i64 oc.g, .int .i64 oc.o, .int .i64 oc.l, .int .i64 oc.d, .int .i64 oc.c, .int .i64 oc.t] 36) from by rw [hW0]; exact has_new _ _ _ rfl)
  have hmb : w.heap.size ≠ mb := by have := h.pb.lt; omega
  have HW0 := Lib.hid hW0
  clear h hh hu hn hpn hpf hS hW0 hpb
  go_enter Tryd.func9, Tryd.ntmps9
  go_wp2_with fail
  rw [← HW0.out]
  refine (HP.out _ HB0.out).mono ?_
  rintro e w1 ⟨rfl, hp1, hk1⟩
  have hk : Keeps (fun x => x = mb) w w1 := (Keeps.of_below HB0.out).trans hk1
  have hx1 := has_turn HX0.out hk1 hmb
  have hr1 := own_turn HH.out.rb HH.out.pb.map hk
  have HG1 := Lib.hid (laid_turn HH.out.laid HH.out.pb.map hk)
  have HP1 := Lib.hid hp1
  have HK1 := Lib.hid hk
  have HR1 := Lib.hid hr1
  obtain ⟨q0, q1, q2, q3, q4, q5, q6, q7, q8, q9, q10, q11, q12, q13, q14, q15, q16, q17⟩ := op18 hx1
  clear hp1 hk1 hk hr1 hx1
  generalize errV n = ev at HN ⊢
  go_wp2_with fail
  refine (HR.out _ HR1.out).mono ?_
  rintro e w2 ⟨v', rfl, hr2, hb2⟩
  have HM := Lib.hid (step_mid HH.out HP1.out HK1.out hr2 hb2 HI.out)
  clear hr2 hb2 q0 q1 q2 q3 q4 q5 q6 q7 q8 q9 q10 q11 q12 q13 q14 q15 q16 q17
  go_wp2_with fail
  refine (HN.out _ HM.out.1.laid).mono ?_
  rintro e w3 ⟨rfl, hb3⟩
  have HB3 := Lib.hid hb3
  clear hb3
  go_wp2_with fail
  go_ret2
  exact ⟨_, rfl, HM.out.1.below HB3.out, HM.out.2.trans (Keeps.of_below HB3.out)⟩
set_option maxHeartbeats 2000000 in
set_option maxRecDepth 100000 in
theorem step_close (w : World) (b mb : Nat) (v : Value) (L : List Ln) (h : Both w b mb v L) (h4 : L.length ≤ 1000) (o : Oy) (ho : OpOk w o) (hk : o.kind = 3) :
    Calls Tryd.prog 9 #[.pointer (some ⟨b, 0, none⟩), v, oV o] w (StepPost w b mb (stepB L o)) := by
  obtain ⟨okind, oh, oup, opv, opn, opf, on, ob, oa, oc⟩ := o
  obtain ⟨hpn, hpf, hpb, hh, hu, hn⟩ := ho
  dsimp only at hk hpn hpf hpb hh hu hn
  subst hk
  have hS : stepB L ⟨3, oh, oup, opv, opn, opf, on, ob, oa, oc⟩ = closeB L oh := rfl
  rw [hS]
  have HH := Lib.hid h
  have HI := Lib.hid (iv_close h.iv oh)
  have HP := Lib.hid (fun W (hb : Below w.heap.size w W) => pclose W b mb L (h.pb.below hb) (by omega) h.iv.inv oh hh)
  have HR := Lib.hid (fun W (hr : Lns W v L) => rclose W v L hr (by omega) h.iv.inv oh)
  have HN := Lib.hid (fun W (hg : LaidAt W) => num_errV (closeE L oh) W hg)
  have HPN := Lib.hid hpn
  generalize closeB L oh = L' at HP HR HI ⊢
  generalize closeE L oh = n at HP HR HN
  obtain ⟨W0, hW0⟩ : ∃ W0, W0 = w.alloc (.cells #[.int .i64 3, .int .i64 oh, .int .i64 oup, opv, .int .i64 on, .bool ob, .int .i64 oa.g, .int .i64 oa.o, .int .i64 oa.l, .int .i64 oa.d, .int .i64 oa.c, .int .i64 oa.t, .int .i64 oc.g, .int .i64 oc.o, .int .i64 oc.l, .int .i64 oc.d, .int .i64 oc.c, .int .i64 oc.t] 36) := ⟨_, rfl⟩
  have HB0 := Lib.hid (show Below w.heap.size w W0 from by rw [hW0]; exact below_alloc (Below.refl _ _) _)
  have HX0 := Lib.hid (show Has W0 w.heap.size (.cells #[.int .i64 3, .int .i64 oh, .int .i64 oup, opv, .int .i64 on, .bool ob, .int .i64 oa.g, .int .i64 oa.o, .int .i64 oa.l, .int .i64 oa.d, .int .i64 oa.c, .int .i64 oa.t, .int .i64 oc.g, .int .i64 oc.o, .int .i64 oc.l, .int .i64 oc.d, .int .i64 oc.c, .int .i64 oc.t] 36) from by rw [hW0]; exact has_new _ _ _ rfl)
  have hmb : w.heap.size ≠ mb := by have := h.pb.lt; omega
  have HW0 := Lib.hid hW0
  clear h hh hu hn hpn hpf hS hW0 hpb
  go_enter Tryd.func9, Tryd.ntmps9
  go_wp2_with fail
  rw [← HW0.out]
  refine (HP.out _ HB0.out).mono ?_
  rintro e w1 ⟨rfl, hp1, hk1⟩
  have hk : Keeps (fun x => x = mb) w w1 := (Keeps.of_below HB0.out).trans hk1
  have hx1 := has_turn HX0.out hk1 hmb
  have hr1 := own_turn HH.out.rb HH.out.pb.map hk
  have HG1 := Lib.hid (laid_turn HH.out.laid HH.out.pb.map hk)
  have HP1 := Lib.hid hp1
  have HK1 := Lib.hid hk
  have HR1 := Lib.hid hr1
  obtain ⟨q0, q1, q2, q3, q4, q5, q6, q7, q8, q9, q10, q11, q12, q13, q14, q15, q16, q17⟩ := op18 hx1
  clear hp1 hk1 hk hr1 hx1
  generalize errV n = ev at HN ⊢
  go_wp2_with fail
  refine (HR.out _ HR1.out).mono ?_
  rintro e w2 ⟨v', rfl, hr2, hb2⟩
  have HM := Lib.hid (step_mid HH.out HP1.out HK1.out hr2 hb2 HI.out)
  clear hr2 hb2 q0 q1 q2 q3 q4 q5 q6 q7 q8 q9 q10 q11 q12 q13 q14 q15 q16 q17
  go_wp2_with fail
  refine (HN.out _ HM.out.1.laid).mono ?_
  rintro e w3 ⟨rfl, hb3⟩
  have HB3 := Lib.hid hb3
  clear hb3
  go_wp2_with fail
  go_ret2
  exact ⟨_, rfl, HM.out.1.below HB3.out, HM.out.2.trans (Keeps.of_below HB3.out)⟩
set_option maxHeartbeats 2000000 in
set_option maxRecDepth 100000 in
theorem step_load (w : World) (b mb : Nat) (v : Value) (L : List Ln) (h : Both w b mb v L) (h4 : L.length ≤ 1000) (o : Oy) (ho : OpOk w o) (hk : ¬ o.kind = 0 ∧ ¬ o.kind = 1 ∧ ¬ o.kind = 2 ∧ ¬ o.kind = 3) :
    Calls Tryd.prog 9 #[.pointer (some ⟨b, 0, none⟩), v, oV o] w (StepPost w b mb (stepB L o)) := by
  obtain ⟨okind, oh, oup, opv, opn, opf, on, ob, oa, oc⟩ := o
  obtain ⟨hpn, hpf, hpb, hh, hu, hn⟩ := ho
  dsimp only at hk hpn hpf hpb hh hu hn
  obtain ⟨k0, k1, k2, k3⟩ := hk
  have hS : stepB L ⟨okind, oh, oup, opv, opn, opf, on, ob, oa, oc⟩ = loadB L oh oa oc := by
    unfold stepB
    dsimp only
    rw [if_neg k0, if_neg k1, if_neg k2, if_neg k3]
  have z0 : (okind == 0) = false := by simpa using k0
  have z1 : (okind == 1) = false := by simpa using k1
  have z2 : (okind == 2) = false := by simpa using k2
  have z3 : (okind == 3) = false := by simpa using k3
  rw [hS]
  have HH := Lib.hid h
  have HI := Lib.hid (iv_load h.iv oh oa oc)
  have HP := Lib.hid (fun W (hb : Below w.heap.size w W) => pload W b mb L (h.pb.below hb) (by omega) oh hh oa oc)
  have HR := Lib.hid (fun W (hr : Lns W v L) => rload W v L hr (by omega) h.iv.inv.nd oh oa oc)
  have HN := Lib.hid (fun W (hg : LaidAt W) => num_errV (loadE L oh oa oc) W hg)
  have HPN := Lib.hid hpn
  generalize loadB L oh oa oc = L' at HP HR HI ⊢
  generalize loadE L oh oa oc = n at HP HR HN
  obtain ⟨W0, hW0⟩ : ∃ W0, W0 = w.alloc (.cells #[.int .i64 okind, .int .i64 oh, .int .i64 oup, opv, .int .i64 on, .bool ob, .int .i64 oa.g, .int .i64 oa.o, .int .i64 oa.l, .int .i64 oa.d, .int .i64 oa.c, .int .i64 oa.t, .int .i64 oc.g, .int .i64 oc.o, .int .i64 oc.l, .int .i64 oc.d, .int .i64 oc.c, .int .i64 oc.t] 36) := ⟨_, rfl⟩
  have HB0 := Lib.hid (show Below w.heap.size w W0 from by rw [hW0]; exact below_alloc (Below.refl _ _) _)
  have HX0 := Lib.hid (show Has W0 w.heap.size (.cells #[.int .i64 okind, .int .i64 oh, .int .i64 oup, opv, .int .i64 on, .bool ob, .int .i64 oa.g, .int .i64 oa.o, .int .i64 oa.l, .int .i64 oa.d, .int .i64 oa.c, .int .i64 oa.t, .int .i64 oc.g, .int .i64 oc.o, .int .i64 oc.l, .int .i64 oc.d, .int .i64 oc.c, .int .i64 oc.t] 36) from by rw [hW0]; exact has_new _ _ _ rfl)
  have hmb : w.heap.size ≠ mb := by have := h.pb.lt; omega
  have HW0 := Lib.hid hW0
  clear h hh hu hn hpn hpf hS hW0 hpb
  go_enter Tryd.func9, Tryd.ntmps9
  go_wp2_with fail
  rw [← HW0.out]
  refine (HP.out _ HB0.out).mono ?_
  rintro e w1 ⟨rfl, hp1, hk1⟩
  have hk : Keeps (fun x => x = mb) w w1 := (Keeps.of_below HB0.out).trans hk1
  have hx1 := has_turn HX0.out hk1 hmb
  have hr1 := own_turn HH.out.rb HH.out.pb.map hk
  have HG1 := Lib.hid (laid_turn HH.out.laid HH.out.pb.map hk)
  have HP1 := Lib.hid hp1
  have HK1 := Lib.hid hk
  have HR1 := Lib.hid hr1
  obtain ⟨q0, q1, q2, q3, q4, q5, q6, q7, q8, q9, q10, q11, q12, q13, q14, q15, q16, q17⟩ := op18 hx1
  clear hp1 hk1 hk hr1 hx1
  generalize errV n = ev at HN ⊢
  go_wp2_with fail
  refine (HR.out _ HR1.out).mono ?_
  rintro e w2 ⟨v', rfl, hr2, hb2⟩
  have HM := Lib.hid (step_mid HH.out HP1.out HK1.out hr2 hb2 HI.out)
  clear hr2 hb2 q0 q1 q2 q3 q4 q5 q6 q7 q8 q9 q10 q11 q12 q13 q14 q15 q16 q17
  go_wp2_with fail
  refine (HN.out _ HM.out.1.laid).mono ?_
  rintro e w3 ⟨rfl, hb3⟩
  have HB3 := Lib.hid hb3
  clear hb3
  go_wp2_with fail
  go_ret2
  exact ⟨_, rfl, HM.out.1.below HB3.out, HM.out.2.trans (Keeps.of_below HB3.out)⟩
set_option maxHeartbeats 2000000 in
set_option maxRecDepth 100000 in
theorem step_charge (w : World) (b mb : Nat) (v : Value) (L : List Ln) (h : Both w b mb v L) (h4 : L.length ≤ 1000) (o : Oy) (ho : OpOk w o) (hk : o.kind = 1) :
    Calls Tryd.prog 9 #[.pointer (some ⟨b, 0, none⟩), v, oV o] w (StepPost w b mb (stepB L o)) := by
  obtain ⟨okind, oh, oup, opv, opn, opf, on, ob, oa, oc⟩ := o
  obtain ⟨hpn, hpf, hpb, hh, hu, hn⟩ := ho
  dsimp only at hk hpn hpf hpb hh hu hn
  subst hk
  have hS : stepB L ⟨1, oh, oup, opv, opn, opf, on, ob, oa, oc⟩ = chargeB L opn opf ob := rfl
  rw [hS]
  have HH := Lib.hid h
  have HI := Lib.hid (iv_charge h.iv opn opf ob)
  have HP := Lib.hid (fun W (hb : Below w.heap.size w W) (u : Value) (hu : Nums W u opn opf) => pcharge W b mb L (h.pb.below hb) (by omega) h.iv.inv u opn opf hu hpf ob)
  have HR := Lib.hid (fun W (hr : Lns W v L) (hu : Nums W opv opn opf) => rcharge W v L hr (by omega) h.iv.inv opv opn opf hu ob)
  have HN := Lib.hid (fun W (hg : LaidAt W) => num_errV (chargeE L opn opf) W hg)
  have HPN := Lib.hid hpn
  generalize chargeB L opn opf ob = L' at HP HR HI ⊢
  generalize chargeE L opn opf = n at HP HR HN
  obtain ⟨W0, hW0⟩ : ∃ W0, W0 = w.alloc (.cells #[.int .i64 1, .int .i64 oh, .int .i64 oup, opv, .int .i64 on, .bool ob, .int .i64 oa.g, .int .i64 oa.o, .int .i64 oa.l, .int .i64 oa.d, .int .i64 oa.c, .int .i64 oa.t, .int .i64 oc.g, .int .i64 oc.o, .int .i64 oc.l, .int .i64 oc.d, .int .i64 oc.c, .int .i64 oc.t] 36) := ⟨_, rfl⟩
  have HB0 := Lib.hid (show Below w.heap.size w W0 from by rw [hW0]; exact below_alloc (Below.refl _ _) _)
  have HX0 := Lib.hid (show Has W0 w.heap.size (.cells #[.int .i64 1, .int .i64 oh, .int .i64 oup, opv, .int .i64 on, .bool ob, .int .i64 oa.g, .int .i64 oa.o, .int .i64 oa.l, .int .i64 oa.d, .int .i64 oa.c, .int .i64 oa.t, .int .i64 oc.g, .int .i64 oc.o, .int .i64 oc.l, .int .i64 oc.d, .int .i64 oc.c, .int .i64 oc.t] 36) from by rw [hW0]; exact has_new _ _ _ rfl)
  have hmb : w.heap.size ≠ mb := by have := h.pb.lt; omega
  have HW0 := Lib.hid hW0
  clear h hh hu hn hpn hpf hS hW0 
  go_enter Tryd.func9, Tryd.ntmps9
  go_wp2_with fail
  rw [← HW0.out]
  obtain ⟨q0, q1, q2, q3, q4, q5, q6, q7, q8, q9, q10, q11, q12, q13, q14, q15, q16, q17⟩ := op18 HX0.out
  have HSRC := Lib.hid (src_nums (HPN.out.below HB0.out))
  have HBD := Lib.hid HB0.out.drew
  have HXD := Lib.hid (has_drew HX0.out)
  go_cut [12] (fun ev wx => ev = errV n ∧ Hid (PBk wx b mb L' ∧ Keeps (fun x => x = mb) w wx ∧ Has wx w.heap.size (.cells #[.int .i64 1, .int .i64 oh, .int .i64 oup, opv, .int .i64 on, .bool ob, .int .i64 oa.g, .int .i64 oa.o, .int .i64 oa.l, .int .i64 oa.d, .int .i64 oa.c, .int .i64 oa.t, .int .i64 oc.g, .int .i64 oc.o, .int .i64 oc.l, .int .i64 oc.d, .int .i64 oc.c, .int .i64 oc.t] 36)))
  case first =>
    go_region_law (first
      | (go_simp; go_at_call 19; refine (HP.out wA HBA.out (.slice pA opn cA) HNA.out).mono ?_; rintro e w1 ⟨rfl, hp1, hk1⟩; have HP1 := Lib.hid hp1; have HK1 := Lib.hid hk1; clear hp1 hk1)
      | (refine step_append_hans rfl _ _ rfl w.heap.size (.slice none 0 0) 0 [] rfl (World.ownsRow_nil _ _ _ _) opv opn (numL opf opn) rfl HSRC.out (numL_one _ _) (by omega) HBD.out.size ?_; intro pA cA wA hoA hgA; have HBA := Lib.hid (HBD.out.grown hgA HBD.out.size (fun k e => by simp [Value.ownBlock] at e)); have HXA := Lib.hid (has_below HXD.out (below_of_grown hgA)); have HNA := Lib.hid (show Nums wA (.slice pA opn cA) opn opf from by (try rw [Nat.zero_add] at hoA); exact own_hans hoA (by omega)); have hqa := (op18 HXA.out).2.2.2.2.2.1; clear hoA hgA))
    all_goals
      go_wp2_with fail
      go_meet
      exact ⟨rfl, Lib.hid ⟨HP1.out, (Keeps.of_below HBA.out).trans HK1.out, has_turn HXA.out HK1.out hmb⟩⟩
  case rest =>
    obtain ⟨rfl, HM1⟩ := hcut
    clear q0 q1 q2 q3 q4 q5 q6 q7 q8 q9 q10 q11 q12 q13 q14 q15 q16 q17 HSRC HBD HXD
    have HR1 := Lib.hid (own_turn HH.out.rb HH.out.pb.map HM1.out.2.1)
    have HN1 := Lib.hid (nums_turn HPN.out HH.out.pb.map HM1.out.2.1)
    obtain ⟨q0, q1, q2, q3, q4, q5, q6, q7, q8, q9, q10, q11, q12, q13, q14, q15, q16, q17⟩ := op18 HM1.out.2.2
    generalize errV n = ev at HN ⊢
    go_wp2_with fail
    refine (HR.out _ HR1.out HN1.out).mono ?_
    rintro e w2 ⟨v', rfl, hr2, hb2⟩
    have HM := Lib.hid (step_mid HH.out HM1.out.1 HM1.out.2.1 hr2 hb2 HI.out)
    clear hr2 hb2 q0 q1 q2 q3 q4 q5 q6 q7 q8 q9 q10 q11 q12 q13 q14 q15 q16 q17
    go_wp2_with fail
    refine (HN.out _ HM.out.1.laid).mono ?_
    rintro e w3 ⟨rfl, hb3⟩
    have HB3 := Lib.hid hb3
    clear hb3
    go_wp2_with fail
    go_ret2
    exact ⟨_, rfl, HM.out.1.below HB3.out, HM.out.2.trans (Keeps.of_below HB3.out)⟩
theorem step_any (w : World) (b mb : Nat) (v : Value) (L : List Ln) (h : Both w b mb v L) (h4 : L.length ≤ 1000) (o : Oy) (ho : OpOk w o) :
    Calls Tryd.prog 9 #[.pointer (some ⟨b, 0, none⟩), v, oV o] w (StepPost w b mb (stepB L o)) := by
  by_cases k0 : o.kind = 0
  · exact step_open w b mb v L h h4 o ho k0
  · by_cases k1 : o.kind = 1
    · exact step_charge w b mb v L h h4 o ho k1
    · by_cases k2 : o.kind = 2
      · exact step_note w b mb v L h h4 o ho k2
      · by_cases k3 : o.kind = 3
        · exact step_close w b mb v L h h4 o ho k3
        · exact step_load w b mb v L h h4 o ho ⟨k0, k1, k2, k3⟩
end Go.Proofs.YtdbfjcdglcagaaaDoor
