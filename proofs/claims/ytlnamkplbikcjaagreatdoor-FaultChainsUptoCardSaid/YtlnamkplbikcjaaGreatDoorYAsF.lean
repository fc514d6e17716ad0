/- errors.as and errors.As at a target of type **fault.Fault: the first one of its kind is found, or none; no condition but what errors.errorType holds. -/
import Derived.Test.YtlnamkplbikcjaaGreatDoorYRefl
import Derived.Deep.LoopGhost
namespace Go.Proofs.YtlnamkplbikcjaaGreatDoor
open Go.RowKit Ft Go.Extern.Stop Go.Stop Go.Extern

/-- What errors.as answers. -/
def AsPostF (N : Nat) (w : World) (e : Er) (t : Addr) (r : Ending) (w' : World) : Prop := match e.fnd .flt with
  | none => r = .returned (.bool false) ∧ Below w.heap.size w w'
  | some e1 => r = .returned (.bool true) ∧ ∃ u W, EV N W e1 (.iface 46 u) ∧ Below w.heap.size w W ∧ w' = W.setCell t u
theorem AsPostF.none {N : Nat} {w : World} {e : Er} {t : Addr} {w' : World} (h : e.fnd .flt = none) (hb : Below w.heap.size w w') : AsPostF N w e t (.returned (.bool false)) w' := by
  unfold AsPostF; rw [h]; exact ⟨rfl, hb⟩
theorem AsPostF.some {N : Nat} {w : World} {e e1 : Er} {t : Addr} {W : World} {u : Value} (h : e.fnd .flt = some e1) (hv : EV N W e1 (.iface 46 u)) (hb : Below w.heap.size w W) : AsPostF N w e t (.returned (.bool true)) (W.setCell t u) := by
  unfold AsPostF; rw [h]; exact ⟨rfl, u, W, hv, hb, rfl⟩

set_option maxHeartbeats 4000000 in
set_option maxRecDepth 100000 in
theorem asF_any (d : Nat) : ∀ (e : Er), e.sz ≤ d → e ≠ .nil → ∀ (N : Nat) (v : Value) (w : World) (a t : Addr), N ≤ w.heap.size → EV N w e v → AsPre a t w →
    Calls Tryz.prog 65 #[v, .iface 78 (.pointer (some t)), .agg #[.pointer (some ⟨5, 78, none⟩), .pointer (some a), .int .u64 150], .iface 81 (.agg #[.pointer (some ⟨5, 46, none⟩)])] w (AsPostF N w e t) := by
  induction d with
  | zero => intro e h; exact absurd h (by have := e.sz_pos; omega)
  | succ d ih =>
    intro e hd hne N v w a t hN hv hp
    have hT := @run_callFunc_extern Tryz.prog 36 _ ReflectliteType.typeOf Tryz.func36 (by kernel_rfl) (by kernel_rfl) (by kernel_rfl) (by kernel_rfl)
    have hA := @run_callFunc_extern Tryz.prog 109 _ (ReflectliteType.relation "AssignableTo" ReflectliteType.assignableTo) Tryz.func109 (by kernel_rfl) (by kernel_rfl) (by kernel_rfl) (by kernel_rfl)
    have mA := m_AssignableTo
    have IH := Lib.hid ih
    have HV := Lib.hid hv
    have HP := Lib.hid hp
    have HNe := Lib.hid hne
    have HD := Lib.hid hd
    clear ih hv hp hne hd
    go_enter Tryz.func65, Tryz.ntmps65
    go_wp2_with fail
    go_loopg [0] (d + 1) (fun kx v wr => ∃ e', e'.sz ≤ kx ∧ kx ≤ d + 1 ∧ Hid (e' ≠ .nil) ∧ Hid (e'.fnd .flt = e.fnd .flt) ∧ Hid (EV N wr e' v) ∧ Hid (Below w.heap.size w wr) ∧ Hid (AsPre a t wr) ∧ Hid (wr.cell? ⟨w.heap.size, 0, none⟩ = some (.pointer (some ⟨5, 78, none⟩)) ∧ wr.cell? ⟨w.heap.size, 1, none⟩ = some (.pointer (some a)) ∧ wr.cell? ⟨w.heap.size, 2, none⟩ = some (.int .u64 150)))
    case atStart =>
      have hb : Below w.heap.size w (w.alloc (.cells #[.pointer (some ⟨5, 78, none⟩), .pointer (some a), .int .u64 150] 105)) := (by repeat (first | exact Below.refl _ _ | (with_reducible assumption) | refine Below.drew ?_ | (refine Below.alloc ?_ (by first | exact Nat.le_refl _ | omega | (simp; done) | (simp; omega)) _) | (refine Below.setCell ?_ (by first | omega | (simp; done) | (simp; omega)) _)))
      exact ⟨e, HD.out, Nat.le_refl _, HNe, Lib.hid rfl, Lib.hid (HV.out.keep (hb.mono hN)), Lib.hid hb, Lib.hid (HP.out.below hb), Lib.hid ⟨by simp, by simp, by simp⟩⟩
    case round =>
      obtain ⟨e', hs, hk, hne', hf, hv', hb, hp', hx⟩ := hrel
      rename World => wo
      obtain ⟨x0, x1, x2⟩ := hx.out
      obtain ⟨ca, ⟨old, ct⟩, cf⟩ := hp'.out
      have hsz := hb.out.size
      have hNr : N ≤ wo.heap.size := by omega
      cases e' with
      | nil => exact absurd rfl hne'.out
      | num n =>
        have hvv := hv'.out
        cases hvv
        have ty := ty_num n
        have aE := as_num_flt_
        have t1 := ta_num_as n
        have t2 := ta_num_un n
        have t3 := ta_num_us n
        go_wp2_with fail
        go_ret
        exact AsPostF.none (by rw [← hf.out]; rfl) hb.out
      | odd s =>
        have hvv := hv'.out
        cases hvv
        have ty := ty_odd s
        have aE := as_odd_flt_
        have t1 := ta_odd_as s
        have t2 := ta_odd_un s
        have t3 := ta_odd_us s
        go_wp2_with fail
        go_ret
        exact AsPostF.none (by rw [← hf.out]; rfl) hb.out
      | nF =>
        have hvv := hv'.out
        cases hvv
        have ty := ty_flt none
        have aE := as_flt_flt_
        have hV := @run_callFunc_extern Tryz.prog 70 _ (ReflectliteValue.method (ReflectliteValue.valueError "reflectlite.Value.Elem" 0) ReflectliteValue.elem) Tryz.func70 (by kernel_rfl) (by kernel_rfl) (by kernel_rfl) (by kernel_rfl)
        have hS := @run_callFunc_extern Tryz.prog 71 _ ReflectliteValue.set Tryz.func71 (by kernel_rfl) (by kernel_rfl) (by kernel_rfl) (by kernel_rfl)
        have h6 := @run_callFunc_extern Tryz.prog 62 _ (fun args => ReflectliteValue.unpack (args.getD 0 (.tuple #[]))) Tryz.func62 (by kernel_rfl) (by kernel_rfl) (by kernel_rfl) (by kernel_rfl)
        have vE := valueOfE_flt none
        have el := elemVP_flt a t wo ca
        have st := setE_flt t ⟨wo.heap.size, 0, none⟩ none old (wo.alloc (.cells #[.pointer none] 46)) (by simp) (by rw [World.cell?_alloc_lt _ _ t (cell_blk ct)]; exact ct) (by rw [World.frozen?_alloc_old _ _ t (Nat.ne_of_lt (cell_blk ct))]; exact cf)
        go_wp2_with fail
        go_ret
        have hba : Below w.heap.size w (wo.alloc (.cells #[.pointer none] 46)) := hb.out.alloc hsz _
        exact AsPostF.some (by rw [← hf.out]; rfl) (hv'.out.keep ((Below.refl N _).alloc hNr _)) hba
      | nP =>
        have hvv := hv'.out
        cases hvv
        have ty := ty_plc none
        have aE := as_plc_flt_
        have t1 := ta_plc_as none
        have t2 := ta_plc_un none
        have mu := mu_plc none
        go_wp2_with fail
        refine (un_plcn _).mono ?_
        rintro r w1 ⟨rfl, rfl⟩
        go_wp2_with fail
        go_ret
        exact AsPostF.none (by rw [← hf.out]; rfl) hb.out
      | nQ =>
        have hvv := hv'.out
        cases hvv
        have ty := ty_par none
        have aE := as_par_flt_
        have t1 := ta_par_as none
        have t2 := ta_par_un none
        have t3 := ta_par_us none
        have mu := mu_par none
        go_wp2_with fail
        refine (un_parn _).mono ?_
        rintro r w1 ⟨rfl, rfl⟩
        go_wp2_with fail
        refine wp_loop_rounds 1 ?_
        rw [rounds_succ]
        go_wp2_with fail
        go_ret
        exact AsPostF.none (by rw [← hf.out]; rfl) hb.out
      | fault op h e2 =>
        obtain ⟨b, x, rfl, hkb, y0, y1, y2, hx2⟩ := hv'.out
        have ty := ty_flt (some ⟨b, 0, none⟩)
        have aE := as_flt_flt_
        have hV := @run_callFunc_extern Tryz.prog 70 _ (ReflectliteValue.method (ReflectliteValue.valueError "reflectlite.Value.Elem" 0) ReflectliteValue.elem) Tryz.func70 (by kernel_rfl) (by kernel_rfl) (by kernel_rfl) (by kernel_rfl)
        have hS := @run_callFunc_extern Tryz.prog 71 _ ReflectliteValue.set Tryz.func71 (by kernel_rfl) (by kernel_rfl) (by kernel_rfl) (by kernel_rfl)
        have h6 := @run_callFunc_extern Tryz.prog 62 _ (fun args => ReflectliteValue.unpack (args.getD 0 (.tuple #[]))) Tryz.func62 (by kernel_rfl) (by kernel_rfl) (by kernel_rfl) (by kernel_rfl)
        have vE := valueOfE_flt (some ⟨b, 0, none⟩)
        have el := elemVP_flt a t wo ca
        have st := setE_flt t ⟨wo.heap.size, 0, none⟩ (some ⟨b, 0, none⟩) old (wo.alloc (.cells #[.pointer (some ⟨b, 0, none⟩)] 46)) (by simp) (by rw [World.cell?_alloc_lt _ _ t (cell_blk ct)]; exact ct) (by rw [World.frozen?_alloc_old _ _ t (Nat.ne_of_lt (cell_blk ct))]; exact cf)
        go_wp2_with fail
        go_ret
        have hba : Below w.heap.size w (wo.alloc (.cells #[.pointer (some ⟨b, 0, none⟩)] 46)) := hb.out.alloc hsz _
        exact AsPostF.some (by rw [← hf.out]; rfl) (hv'.out.keep ((Below.refl N _).alloc hNr _)) hba
      | place n e2 =>
        obtain ⟨b, x, rfl, hkb, y0, y1, hx2⟩ := hv'.out
        have ty := ty_plc (some ⟨b, 0, none⟩)
        have aE := as_plc_flt_
        have t1 := ta_plc_as (some ⟨b, 0, none⟩)
        have t2 := ta_plc_un (some ⟨b, 0, none⟩)
        have mu := mu_plc (some ⟨b, 0, none⟩)
        have HU := Lib.hid (un_plc b x wo y1)
        have HX2 := Lib.hid hx2
        by_cases hn2 : e2 = .nil
        · subst hn2
          cases hx2
          go_wp2_with fail
          refine HU.out.mono ?_
          rintro r w1 ⟨rfl, rfl⟩
          go_wp2_with fail
          go_ret
          exact AsPostF.none (by rw [← hf.out]; rfl) hb.out
        · obtain ⟨ti, pi, rfl⟩ := hx2.iface hn2
          have HN2 := Lib.hid hn2
          clear hx2 hn2
          simp only [Er.sz] at hs
          obtain ⟨g', rfl⟩ : ∃ g', gk = g' + 1 := ⟨gk - 1, by omega⟩
          go_wp2_with fail
          refine HU.out.mono ?_
          rintro r w1 ⟨rfl, rfl⟩
          go_wp2_with fail
          go_roundg g'
          case measure => omega
          case rel => exact ⟨e2, by omega, by omega, HN2, Lib.hid (by rw [← hf.out]; rfl), HX2, hb, hp', hx⟩
      | pair c1 c2 =>
        obtain ⟨b, x, y, rfl, hkb, y0, y1, hx2, hy2⟩ := hv'.out
        have ty := ty_par (some ⟨b, 0, none⟩)
        have aE := as_par_flt_
        have t1 := ta_par_as (some ⟨b, 0, none⟩)
        have t2 := ta_par_un (some ⟨b, 0, none⟩)
        have t3 := ta_par_us (some ⟨b, 0, none⟩)
        have mu := mu_par (some ⟨b, 0, none⟩)
        have HU := Lib.hid (un_par b x y wo hx2.form hy2.form y0 y1)
        simp only [Er.sz] at hs
        have s1 := c1.sz_pos
        have s2 := c2.sz_pos
        have IA := Lib.hid (show c1 ≠ .nil → ∀ W, Below w.heap.size w W → Calls Tryz.prog 65 #[x, .iface 78 (.pointer (some t)), .agg #[.pointer (some ⟨5, 78, none⟩), .pointer (some a), .int .u64 150], .iface 81 (.agg #[.pointer (some ⟨5, 46, none⟩)])] W (AsPostF N W c1 t) from fun h W hW => IH.out c1 (by omega) h N _ W a t (by have := hW.size; omega) (hx2.keep' hb.out hW hN) (HP.out.below hW))
        have IC := Lib.hid (show c2 ≠ .nil → ∀ W, Below w.heap.size w W → Calls Tryz.prog 65 #[y, .iface 78 (.pointer (some t)), .agg #[.pointer (some ⟨5, 78, none⟩), .pointer (some a), .int .u64 150], .iface 81 (.agg #[.pointer (some ⟨5, 46, none⟩)])] W (AsPostF N W c2 t) from fun h W hW => IH.out c2 (by omega) h N _ W a t (by have := hW.size; omega) (hy2.keep' hb.out hW hN) (HP.out.below hW))
        have HX2 := Lib.hid hx2
        have HY2 := Lib.hid hy2
        have FP : Hid ((Er.pair c1 c2).fnd .flt = match c1.fnd .flt with | some z => some z | none => c2.fnd .flt) := Lib.hid rfl
        clear hx2 hy2
        go_wp2_with fail
        refine HU.out.mono ?_
        rintro r w1 ⟨rfl, z0, z1, hb1, hlt1⟩
        have hbw : Below w.heap.size w w1 := bnext hb.out hb1
        have HBW := Lib.hid hbw
        go_wp2_with fail
        go_loopw [50] (fun iv wr => (iv = .int .i64 0 ∨ (iv = .int .i64 1 ∧ Hid (c1.fnd .flt = none)) ∨ (iv = .int .i64 2 ∧ Hid (c1.fnd .flt = none) ∧ Hid (c2.fnd .flt = none))) ∧ Hid (Below w1.heap.size w1 wr)) (fun iv _ => 2 - (intOf iv).toNat)
        case atStart => exact ⟨.inl rfl, Lib.hid (Below.refl _ _)⟩
        case round =>
          obtain ⟨hj, hbi⟩ := hrel
          have hbi2 := bnext hb1 hbi.out
          have x0i := (hbi2.cell (p := ⟨w.heap.size, 0, none⟩) (cell_blk x0)).trans x0
          have x1i := (hbi2.cell (p := ⟨w.heap.size, 1, none⟩) (cell_blk x1)).trans x1
          have x2i := (hbi2.cell (p := ⟨w.heap.size, 2, none⟩) (cell_blk x2)).trans x2
          have z0i := (hbi.out.cell (p := ⟨wo.heap.size, 0, none⟩) hlt1).trans z0
          have z1i := (hbi.out.cell (p := ⟨wo.heap.size, 1, none⟩) hlt1).trans z1
          have HBI := Lib.hid (bnext HBW.out hbi.out)
          clear hbi2 x0 x1 x2 z0 z1 y0 y1 ca ct cf
          rcases hj with rfl | ⟨rfl, hc1⟩ | ⟨rfl, hc1, hc2⟩
          · clear z1i
            by_cases hn : c1 = .nil
            · subst hn
              have hxx := HX2.out
              cases hxx
              go_wp2_with fail
              go_roundw
              case rel => exact ⟨.inr (.inl ⟨rfl, Lib.hid rfl⟩), hbi⟩
              case measure => simp [intOf]
            · obtain ⟨ti, pi, rfl⟩ := HX2.out.iface hn
              have HA := IA.out hn wr HBI.out
              cases hfc : c1.fnd .flt with
              | none =>
                have HA := Lib.hid (HA.mono (R' := fun r w' => r = .returned (.bool false) ∧ Below wr.heap.size wr w') (by intro r w' h; unfold AsPostF at h; rw [hfc] at h; exact h))
                have HFC := Lib.hid hfc
                clear hfc
                go_wp2_with fail
                refine HA.out.mono ?_
                rintro r w2 ⟨rfl, hb2⟩
                go_wp2_with fail
                go_roundw
                case rel => exact ⟨.inr (.inl ⟨rfl, (by first | exact HFC | exact Lib.hid trivial)⟩), Lib.hid (bnext hbi.out hb2)⟩
                case measure => simp [intOf]
              | some e1 =>
                have HA := Lib.hid (HA.mono (R' := fun r w' => r = .returned (.bool true) ∧ ∃ u W, EV N W e1 (.iface 46 u) ∧ Below wr.heap.size wr W ∧ w' = W.setCell t u) (by intro r w' h; unfold AsPostF at h; rw [hfc] at h; exact h))
                have HFC := Lib.hid (show e.fnd .flt = some e1 by rw [← hf.out, FP.out, hfc])
                clear hfc
                go_wp2_with fail
                refine HA.out.mono ?_
                rintro r w2 ⟨rfl, u, W, hev, hbW, rfl⟩
                go_wp2_with fail
                go_ret
                exact AsPostF.some HFC.out hev (bnext HBI.out hbW)
          · clear z0i
            by_cases hn : c2 = .nil
            · subst hn
              have hxx := HY2.out
              cases hxx
              go_wp2_with fail
              go_roundw
              case rel => exact ⟨.inr (.inr ⟨rfl, hc1, Lib.hid rfl⟩), hbi⟩
              case measure => simp [intOf]
            · obtain ⟨ti, pi, rfl⟩ := HY2.out.iface hn
              have HA := IC.out hn wr HBI.out
              cases hfc : c2.fnd .flt with
              | none =>
                have HA := Lib.hid (HA.mono (R' := fun r w' => r = .returned (.bool false) ∧ Below wr.heap.size wr w') (by intro r w' h; unfold AsPostF at h; rw [hfc] at h; exact h))
                have HFC := Lib.hid hfc
                clear hfc
                go_wp2_with fail
                refine HA.out.mono ?_
                rintro r w2 ⟨rfl, hb2⟩
                go_wp2_with fail
                go_roundw
                case rel => exact ⟨.inr (.inr ⟨rfl, hc1, (by first | exact HFC | exact Lib.hid trivial)⟩), Lib.hid (bnext hbi.out hb2)⟩
                case measure => simp [intOf]
              | some e1 =>
                have HA := Lib.hid (HA.mono (R' := fun r w' => r = .returned (.bool true) ∧ ∃ u W, EV N W e1 (.iface 46 u) ∧ Below wr.heap.size wr W ∧ w' = W.setCell t u) (by intro r w' h; unfold AsPostF at h; rw [hfc] at h; exact h))
                have HFC := Lib.hid (show e.fnd .flt = some e1 by rw [← hf.out, FP.out, hc1.out, hfc])
                clear hfc
                go_wp2_with fail
                refine HA.out.mono ?_
                rintro r w2 ⟨rfl, u, W, hev, hbW, rfl⟩
                go_wp2_with fail
                go_ret
                exact AsPostF.some HFC.out hev (bnext HBI.out hbW)
          · go_wp2_with fail
            go_ret
            exact AsPostF.none (by rw [← hf.out, FP.out, hc1.out, hc2.out]) HBI.out

theorem AsF_nil (t : Value) (w : World) :
    Calls Tryz.prog 50 #[.nilIface, t] w fun e w' => e = .returned (.bool false) ∧ w' = w := by
  go_enter Tryz.func50, Tryz.ntmps50
  go_wp2
  go_ret
  exact ⟨rfl, rfl⟩
set_option maxHeartbeats 4000000 in
set_option maxRecDepth 100000 in
theorem AsF_all (e : Er) (N : Nat) (v old : Value) (w : World) (t : Addr) (hN : N ≤ w.heap.size) (hg : LaidAt w) (hv : EV N w e v) (ht0 : w.cell? t = some old) (hf0 : w.frozen? t = false) :
    Calls Tryz.prog 50 #[v, .iface 78 (.pointer (some t))] w (AsPostF N w e t) := by
  by_cases hn : e = .nil
  · subst hn
    cases hv
    refine (AsF_nil _ w).mono ?_
    rintro r w' ⟨rfl, rfl⟩
    exact AsPostF.none rfl (Below.refl _ _)
  · obtain ⟨ti, pi, rfl⟩ := hv.iface hn
    have h6 := @run_callFunc_extern Tryz.prog 62 _ (fun args => ReflectliteValue.unpack (args.getD 0 (.tuple #[]))) Tryz.func62 (by kernel_rfl) (by kernel_rfl) (by kernel_rfl) (by kernel_rfl)
    have h7 := @run_callFunc_extern Tryz.prog 63 _ (ReflectliteValue.methodAny (ReflectliteValue.valueError "reflectlite.Value.Type" 0) (fun t _ _ _ => ReflectliteType.toType t)) Tryz.func63 (by kernel_rfl) (by kernel_rfl) (by kernel_rfl) (by kernel_rfl)
    have h8 := @run_callFunc_extern Tryz.prog 64 _ (ReflectliteValue.method (ReflectliteValue.valueError "reflectlite.Value.IsNil" 0) ReflectliteValue.isNil) Tryz.func64 (by kernel_rfl) (by kernel_rfl) (by kernel_rfl) (by kernel_rfl)
    have hK := @run_callFunc_extern Tryz.prog 101 _ (ReflectliteType.abiMethod fun t => do pure (.int .u8 (← Rtype.kind t))) Tryz.func101 (by kernel_rfl) (by kernel_rfl) (by kernel_rfl) (by kernel_rfl)
    have hE := @run_callFunc_extern Tryz.prog 111 _ (ReflectliteType.method ReflectliteType.elem) Tryz.func111 (by kernel_rfl) (by kernel_rfl) (by kernel_rfl) (by kernel_rfl)
    have hI := @run_callFunc_extern Tryz.prog 112 _ (ReflectliteType.relation "Implements" ReflectliteType.implements_) Tryz.func112 (by kernel_rfl) (by kernel_rfl) (by kernel_rfl) (by kernel_rfl)
    have f6 := valueOfP_flt
    have f7 := typeP_flt
    have mK := m_Kind
    have mE := m_Elem
    have mI := m_Implements
    have kP := kindP_flt
    have kE := kindE_flt
    have eP := elemP_flt
    have iE := implementsE_flt
    obtain ⟨w2, hw2⟩ : ∃ w2, w2 = (w.alloc (.cells #[.pointer (some t)] 78)).alloc (.cells #[.pointer (some ⟨5, 78, none⟩), .pointer (some ⟨w.heap.size, 0, none⟩), .int .u64 150] 105) := ⟨_, rfl⟩
    have hb2 : Below w.heap.size w w2 := by rw [hw2]; exact (by repeat (first | exact Below.refl _ _ | (with_reducible assumption) | refine Below.drew ?_ | (refine Below.alloc ?_ (by first | exact Nat.le_refl _ | omega | (simp; done) | (simp; omega)) _) | (refine Below.setCell ?_ (by first | omega | (simp; done) | (simp; omega)) _)))
    have hg2 := (hg.below hb2).err
    have ha2 : w2.cell? ⟨w.heap.size, 0, none⟩ = some (.pointer (some t)) := by rw [hw2, World.cell?_alloc_lt _ _ ⟨w.heap.size, 0, none⟩ (by simp)]; simp
    have n8 := isNilP_flt ⟨w.heap.size, 0, none⟩ t w2 ha2
    have HA := Lib.hid (asF_any e.sz e (Nat.le_refl _) hn N _ w2 ⟨w.heap.size, 0, none⟩ t (by have := hb2.size; omega) (hv.keep (hb2.mono hN)) ⟨ha2, ⟨old, (hb2.cell (cell_blk ht0)).trans ht0⟩, (hb2.frozen (cell_blk ht0)).trans hf0⟩)
    have HB := Lib.hid hb2
    rw [hw2] at hg2 n8
    have HW := Lib.hid hw2
    clear hg hv hn ht0 hf0 ha2 hb2 hw2
    go_enter Tryz.func50, Tryz.ntmps50
    go_wp2_with fail
    rw [← HW.out]
    refine HA.out.mono ?_
    intro r w' h
    unfold AsPostF at h
    cases hf : e.fnd .flt with
    | none =>
      rw [hf] at h
      obtain ⟨rfl, hb⟩ := h
      have HF := Lib.hid hf
      clear hf
      go_wp2_with fail
      go_ret
      exact AsPostF.none HF.out (bnext HB.out hb)
    | some e1 =>
      rw [hf] at h
      obtain ⟨rfl, u, W, hev, hb, rfl⟩ := h
      have HF := Lib.hid hf
      clear hf
      go_wp2_with fail
      go_ret
      exact AsPostF.some HF.out hev (bnext HB.out hb)
end Go.Proofs.YtlnamkplbikcjaaGreatDoor
