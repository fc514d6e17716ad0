/- errors.is and errors.Is at a target that is an api.Errno: is the number found? No condition. -/
import Derived.Test.YtlnamkplbikcjaaGreatDoorYRefl
import Derived.Deep.LoopGhost
namespace Go.Proofs.YtlnamkplbikcjaaGreatDoor
open Go.RowKit Ft Go.Extern.Stop Go.Stop Go.Extern

section
variable {P : Program} (w : World)
theorem run_equalIn_iface_int (d : Nat) {ti tn : TypeId} {ms : Array (String × TypeId)} {i : TypeInfo} {k : IntKind} (a b : Int)
    (hi : P.underlying ti = some (.interface ms)) (hn : P.underlying tn = some (.int k)) (hinfo : P.info? tn = some i) (hcomp : i.comparable = true) :
    (Op.equalIn (d + 2) ti (.iface tn (.int k a)) (.iface tn (.int k b))).run P w = .ok (a == b) w := by
  simp [Op.equalIn, run_underlying hi, run_underlying hn, typeInfo, hinfo, hcomp]
theorem run_eql_iface_int {ti tn : TypeId} {ms : Array (String × TypeId)} {i : TypeInfo} {k : IntKind} (a b : Int)
    (hi : P.underlying ti = some (.interface ms)) (hn : P.underlying tn = some (.int k)) (hinfo : P.info? tn = some i) (hcomp : i.comparable = true) :
    (binOp .eql ti (.iface tn (.int k a)) (.iface tn (.int k b))).run P w = .ok (.bool (a == b)) w := by
  simp only [binOp]
  simp [Op.equal, Op.maxDepth, run_equalIn_iface_int w 9998 a b hi hn hinfo hcomp]
end
theorem compE : (Tryz.prog.info? 39).map (·.comparable) = some true := by kernel_rfl
theorem eq_num (m n : Int) (w : World) : (binOp .eql 29 (.iface 39 (.int .i64 m)) (.iface 39 (.int .i64 n))).run Tryz.prog w = .ok (.bool (m == n)) w := by
  obtain ⟨i, hi, hc⟩ := Option.map_eq_some_iff.1 compE
  exact run_eql_iface_int w m n Tryz.underlying29 Tryz.underlying39 hi hc
theorem eq_nil (n : Int) (w : World) : (binOp .eql 29 .nilIface (.iface 39 (.int .i64 n))).run Tryz.prog w = .ok (.bool false) w := by kernel_rfl
theorem eq_flt (p : Option Addr) (n : Int) (w : World) : (binOp .eql 29 (.iface 46 (.pointer p)) (.iface 39 (.int .i64 n))).run Tryz.prog w = .ok (.bool false) w := run_eql_iface_types _ _ _ _ Tryz.underlying29 (by decide) w
theorem eq_plc (p : Option Addr) (n : Int) (w : World) : (binOp .eql 29 (.iface 50 (.pointer p)) (.iface 39 (.int .i64 n))).run Tryz.prog w = .ok (.bool false) w := run_eql_iface_types _ _ _ _ Tryz.underlying29 (by decide) w
theorem eq_par (p : Option Addr) (n : Int) (w : World) : (binOp .eql 29 (.iface 53 (.pointer p)) (.iface 39 (.int .i64 n))).run Tryz.prog w = .ok (.bool false) w := run_eql_iface_types _ _ _ _ Tryz.underlying29 (by decide) w
theorem eq_odd (s : ByteArray) (n : Int) (w : World) : (binOp .eql 29 (.iface 57 (.agg #[.string s])) (.iface 39 (.int .i64 n))).run Tryz.prog w = .ok (.bool false) w := run_eql_iface_types _ _ _ _ Tryz.underlying29 (by decide) w
theorem ta_nil_is (w : World) : (Instr.typeAssert .nilIface 29 83 true).run Tryz.prog w = .ok (.tuple #[.nilIface, .bool false]) w := by kernel_rfl
theorem ta_nil_un (w : World) : (Instr.typeAssert .nilIface 29 86 true).run Tryz.prog w = .ok (.tuple #[.nilIface, .bool false]) w := by kernel_rfl
theorem ta_nil_us (w : World) : (Instr.typeAssert .nilIface 29 88 true).run Tryz.prog w = .ok (.tuple #[.nilIface, .bool false]) w := by kernel_rfl

/-- What errors.is answers. -/
def IsPost (n : Int) (w : World) (e : Er) (r : Ending) (w' : World) : Prop := r = .returned (.bool (e.has n)) ∧ Below w.heap.size w w'
theorem IsPost.mk' {n : Int} {w w' : World} {e : Er} {b : Bool} (h : e.has n = b) (hb : Below w.heap.size w w') : IsPost n w e (.returned (.bool b)) w' := by
  unfold IsPost; rw [h]; exact ⟨rfl, hb⟩
set_option maxHeartbeats 4000000 in
set_option maxRecDepth 100000 in
theorem is_any (n : Int) (d : Nat) : ∀ (e : Er), e.sz ≤ d → ∀ (N : Nat) (v : Value) (w : World), N ≤ w.heap.size → EV N w e v →
    Calls Tryz.prog 37 #[v, .iface 39 (.int .i64 n), .bool true] w (IsPost n w e) := by
  induction d with
  | zero => intro e h; exact absurd h (by have := e.sz_pos; omega)
  | succ d ih =>
    intro e hd N v w hN hv
    have IH := Lib.hid ih
    have HV := Lib.hid hv
    have HD := Lib.hid hd
    clear ih hv hd
    go_enter Tryz.func37, Tryz.ntmps37
    go_wp2_with fail
    go_loopg [0] (d + 1) (fun kx v wr => ∃ e', e'.sz ≤ kx ∧ kx ≤ d + 1 ∧ Hid (e'.has n = e.has n) ∧ Hid (EV N wr e' v) ∧ Hid (Below w.heap.size w wr))
    case atStart => exact ⟨e, HD.out, Nat.le_refl _, Lib.hid rfl, HV, Lib.hid (Below.refl _ _)⟩
    case round =>
      obtain ⟨e', hs, hk, hf, hv', hb⟩ := hrel
      rename World => wo
      have hsz := hb.out.size
      have hNr : N ≤ wo.heap.size := by omega
      cases e' with
      | nil =>
        have hvv := hv'.out
        cases hvv
        have eq := eq_nil  n
        have t0 := ta_nil_is 
        have t1 := ta_nil_un 
        have t2 := ta_nil_us 
        go_wp2_with fail
        go_ret
        exact IsPost.mk' (by rw [← hf.out]; rfl) hb.out
      | num m =>
        have hvv := hv'.out
        cases hvv
        have eq := eq_num m n
        have t0 := ta_num_is m
        have t1 := ta_num_un m
        have t2 := ta_num_us m
        by_cases hm : m = n
        · subst hm
          have hmm : (m == m) = true := beq_self_eq_true m
          go_wp2_with fail
          go_ret
          exact IsPost.mk' (by rw [← hf.out]; exact hmm) hb.out
        · have hmm : (m == n) = false := by rw [beq_eq_false_iff_ne]; exact hm
          clear hm
          go_wp2_with fail
          go_ret
          exact IsPost.mk' (by rw [← hf.out]; exact hmm) hb.out
      | odd s =>
        have hvv := hv'.out
        cases hvv
        have eq := eq_odd s n
        have t0 := ta_odd_is s
        have t1 := ta_odd_un s
        have t2 := ta_odd_us s
        go_wp2_with fail
        go_ret
        exact IsPost.mk' (by rw [← hf.out]; rfl) hb.out
      | nF =>
        have hvv := hv'.out
        cases hvv
        have eq := eq_flt none n
        have t0 := ta_flt_is none
        have t1 := ta_flt_un none
        have mu := mu_flt none
        go_wp2_with fail
        refine (un_fltn _).mono ?_
        rintro r w1 ⟨rfl, rfl⟩
        go_wp2_with fail
        go_ret
        exact IsPost.mk' (by rw [← hf.out]; rfl) hb.out
      | nP =>
        have hvv := hv'.out
        cases hvv
        have eq := eq_plc none n
        have t0 := ta_plc_is none
        have t1 := ta_plc_un none
        have mu := mu_plc none
        go_wp2_with fail
        refine (un_plcn _).mono ?_
        rintro r w1 ⟨rfl, rfl⟩
        go_wp2_with fail
        go_ret
        exact IsPost.mk' (by rw [← hf.out]; rfl) hb.out
      | nQ =>
        have hvv := hv'.out
        cases hvv
        have eq := eq_par none n
        have t0 := ta_par_is none
        have t1 := ta_par_un none
        have t2 := ta_par_us none
        have mu := mu_par none
        go_wp2_with fail
        refine (un_parn _).mono ?_
        rintro r w1 ⟨rfl, rfl⟩
        go_wp2_with fail
        refine wp_loop_rounds 1 ?_
        rw [rounds_succ]
        go_wp2_with fail
        go_ret
        exact IsPost.mk' (by rw [← hf.out]; rfl) hb.out
      | fault op h e2 =>
        obtain ⟨b, x, rfl, hkb, y0, y1, y2, hx2⟩ := hv'.out
        have eq := eq_flt (some ⟨b, 0, none⟩) n
        have t0 := ta_flt_is (some ⟨b, 0, none⟩)
        have t1 := ta_flt_un (some ⟨b, 0, none⟩)
        have mu := mu_flt (some ⟨b, 0, none⟩)
        have HU := Lib.hid (un_flt b x wo y2)
        have HX2 := Lib.hid hx2
        by_cases hn2 : e2 = .nil
        · subst hn2
          cases hx2
          go_wp2_with fail
          refine HU.out.mono ?_
          rintro r w1 ⟨rfl, rfl⟩
          go_wp2_with fail
          go_ret
          exact IsPost.mk' (by rw [← hf.out]; rfl) hb.out
        · obtain ⟨ti, pi, rfl⟩ := hx2.iface hn2
          clear hx2 hn2
          simp only [Er.sz] at hs
          obtain ⟨g', rfl⟩ : ∃ g', gk = g' + 1 := ⟨gk - 1, by omega⟩
          go_wp2_with fail
          refine HU.out.mono ?_
          rintro r w1 ⟨rfl, rfl⟩
          go_wp2_with fail
          go_roundg g'
          case measure => omega
          case rel => exact ⟨e2, by omega, by omega, Lib.hid (by rw [← hf.out]; rfl), HX2, hb⟩
      | place m e2 =>
        obtain ⟨b, x, rfl, hkb, y0, y1, hx2⟩ := hv'.out
        have eq := eq_plc (some ⟨b, 0, none⟩) n
        have t0 := ta_plc_is (some ⟨b, 0, none⟩)
        have t1 := ta_plc_un (some ⟨b, 0, none⟩)
        have mu := mu_plc (some ⟨b, 0, none⟩)
        have HU := Lib.hid (un_plc b x wo y1)
        have HX2 := Lib.hid hx2
        by_cases hn2 : e2 = .nil
        · subst hn2
          cases hx2
          go_wp2_with fail
          refine HU.out.mono ?_
          rintro r w1 ⟨rfl, rfl⟩
          go_wp2_with fail
          go_ret
          exact IsPost.mk' (by rw [← hf.out]; rfl) hb.out
        · obtain ⟨ti, pi, rfl⟩ := hx2.iface hn2
          clear hx2 hn2
          simp only [Er.sz] at hs
          obtain ⟨g', rfl⟩ : ∃ g', gk = g' + 1 := ⟨gk - 1, by omega⟩
          go_wp2_with fail
          refine HU.out.mono ?_
          rintro r w1 ⟨rfl, rfl⟩
          go_wp2_with fail
          go_roundg g'
          case measure => omega
          case rel => exact ⟨e2, by omega, by omega, Lib.hid (by rw [← hf.out]; rfl), HX2, hb⟩
      | pair c1 c2 =>
        obtain ⟨b, x, y, rfl, hkb, y0, y1, hx2, hy2⟩ := hv'.out
        have eq := eq_par (some ⟨b, 0, none⟩) n
        have t0 := ta_par_is (some ⟨b, 0, none⟩)
        have t1 := ta_par_un (some ⟨b, 0, none⟩)
        have t2 := ta_par_us (some ⟨b, 0, none⟩)
        have mu := mu_par (some ⟨b, 0, none⟩)
        have HU := Lib.hid (un_par b x y wo hx2.form hy2.form y0 y1)
        simp only [Er.sz] at hs
        have s1 := c1.sz_pos
        have s2 := c2.sz_pos
        have IA := Lib.hid (show ∀ W, Below w.heap.size w W → Calls Tryz.prog 37 #[x, .iface 39 (.int .i64 n), .bool true] W (IsPost n W c1) from fun W hW => IH.out c1 (by omega) N _ W (by have := hW.size; omega) (hx2.keep' hb.out hW hN))
        have IC := Lib.hid (show ∀ W, Below w.heap.size w W → Calls Tryz.prog 37 #[y, .iface 39 (.int .i64 n), .bool true] W (IsPost n W c2) from fun W hW => IH.out c2 (by omega) N _ W (by have := hW.size; omega) (hy2.keep' hb.out hW hN))
        have FP : Hid ((Er.pair c1 c2).has n = (c1.has n || c2.has n)) := Lib.hid rfl
        clear hx2 hy2 hv'
        go_wp2_with fail
        refine HU.out.mono ?_
        rintro r w1 ⟨rfl, z0, z1, hb1, hlt1⟩
        have HBW := Lib.hid (bnext hb.out hb1)
        go_wp2_with fail
        go_loopw [45] (fun iv wr => (iv = .int .i64 0 ∨ (iv = .int .i64 1 ∧ Hid (c1.has n = false)) ∨ (iv = .int .i64 2 ∧ Hid (c1.has n = false) ∧ Hid (c2.has n = false))) ∧ Hid (Below w1.heap.size w1 wr)) (fun iv _ => 2 - (intOf iv).toNat)
        case atStart => exact ⟨.inl rfl, Lib.hid (Below.refl _ _)⟩
        case round =>
          obtain ⟨hj, hbi⟩ := hrel
          have z0i := (hbi.out.cell (p := ⟨wo.heap.size, 0, none⟩) hlt1).trans z0
          have z1i := (hbi.out.cell (p := ⟨wo.heap.size, 1, none⟩) hlt1).trans z1
          have HBI := Lib.hid (bnext HBW.out hbi.out)
          clear z0 z1 y0 y1
          rcases hj with rfl | ⟨rfl, hc1⟩ | ⟨rfl, hc1, hc2⟩
          · clear z1i
            have HA := IA.out wr HBI.out
            cases hfc : c1.has n with
            | false =>
              have HA := Lib.hid (HA.mono (R' := fun r w' => r = .returned (.bool false) ∧ Below wr.heap.size wr w') (by intro r w' h; unfold IsPost at h; rw [hfc] at h; exact h))
              have HFC := Lib.hid hfc
              clear hfc
              go_wp2_with fail
              refine HA.out.mono ?_
              rintro r w2 ⟨rfl, hb2⟩
              go_wp2_with fail
              go_roundw
              case rel => exact ⟨.inr (.inl ⟨rfl, (by first | exact HFC | exact Lib.hid trivial)⟩), Lib.hid (bnext hbi.out hb2)⟩
              case measure => simp [intOf]
            | true =>
              have HA := Lib.hid (HA.mono (R' := fun r w' => r = .returned (.bool true) ∧ Below wr.heap.size wr w') (by intro r w' h; unfold IsPost at h; rw [hfc] at h; exact h))
              have HFC := Lib.hid hfc
              clear hfc
              go_wp2_with fail
              refine HA.out.mono ?_
              rintro r w2 ⟨rfl, hb2⟩
              go_wp2_with fail
              go_ret
              exact IsPost.mk' (by rw [← hf.out, FP.out, HFC.out]; simp) (bnext HBI.out hb2)
          · clear z0i
            have HA := IC.out wr HBI.out
            cases hfc : c2.has n with
            | false =>
              have HA := Lib.hid (HA.mono (R' := fun r w' => r = .returned (.bool false) ∧ Below wr.heap.size wr w') (by intro r w' h; unfold IsPost at h; rw [hfc] at h; exact h))
              have HFC := Lib.hid hfc
              clear hfc
              go_wp2_with fail
              refine HA.out.mono ?_
              rintro r w2 ⟨rfl, hb2⟩
              go_wp2_with fail
              go_roundw
              case rel => exact ⟨.inr (.inr ⟨rfl, hc1, (by first | exact HFC | exact Lib.hid trivial)⟩), Lib.hid (bnext hbi.out hb2)⟩
              case measure => simp [intOf]
            | true =>
              have HA := Lib.hid (HA.mono (R' := fun r w' => r = .returned (.bool true) ∧ Below wr.heap.size wr w') (by intro r w' h; unfold IsPost at h; rw [hfc] at h; exact h))
              have HFC := Lib.hid hfc
              clear hfc
              go_wp2_with fail
              refine HA.out.mono ?_
              rintro r w2 ⟨rfl, hb2⟩
              go_wp2_with fail
              go_ret
              exact IsPost.mk' (by rw [← hf.out, FP.out, HFC.out]; simp) (bnext HBI.out hb2)
          · go_wp2_with fail
            go_ret
            exact IsPost.mk' (by rw [← hf.out, FP.out, hc1.out, hc2.out]; rfl) HBI.out

theorem compM (w : World) : ((ReflectliteType.method fun t => do Rtype.noPackHeld "Comparable" t; (fun a => Value.bool a.comparable) <$> typeInfo t) #[.agg #[.pointer (some ⟨5, 39, none⟩)]]).run Tryz.prog w = .ok (.bool true) w := by kernel_rfl
set_option maxHeartbeats 4000000 in
set_option maxRecDepth 100000 in
theorem Is_all (n : Int) (e : Er) (N : Nat) (v : Value) (w : World) (hN : N ≤ w.heap.size) (hv : EV N w e v) :
    Calls Tryz.prog 20 #[v, .iface 39 (.int .i64 n)] w (IsPost n w e) := by
  have hT := @run_callFunc_extern Tryz.prog 36 _ ReflectliteType.typeOf Tryz.func36 (by kernel_rfl) (by kernel_rfl) (by kernel_rfl) (by kernel_rfl)
  have hC := @run_callFunc_extern Tryz.prog 110 _ (ReflectliteType.method fun t => do Rtype.noPackHeld "Comparable" t; pure (.bool (← typeInfo t).comparable)) Tryz.func110 (by kernel_rfl) (by kernel_rfl) (by kernel_rfl) (by kernel_rfl)
  have ty := ty_num n
  have mC := m_Comparable
  have cM := compM
  by_cases hn : e = .nil
  · subst hn
    cases hv
    have eq := eq_nil n
    go_enter Tryz.func20, Tryz.ntmps20
    go_wp2_with fail
    go_ret
    exact IsPost.mk' rfl (Below.refl _ _)
  · have HI := Lib.hid (is_any n e.sz e (Nat.le_refl _) N v w hN hv)
    obtain ⟨ti, pi, rfl⟩ := hv.iface hn
    clear hv hn
    go_enter Tryz.func20, Tryz.ntmps20
    go_wp2_with fail
    refine HI.out.mono ?_
    rintro r w1 ⟨rfl, hb⟩
    go_wp2_with fail
    go_ret
    exact ⟨rfl, hb⟩
end Go.Proofs.YtlnamkplbikcjaaGreatDoor
