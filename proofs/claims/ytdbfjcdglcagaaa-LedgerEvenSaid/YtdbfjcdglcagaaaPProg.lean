/- The program's book in a world: its map; find, New, Of, Open; no condition but those that each row names. -/
import Derived.Test.YtdbfjcdglcagaaaPMath
import Derived.Deep.CutBlock
import Derived.Deep.CutRange
import Derived.Deep.DeepCutAuto
import Derived.BigRegion
import Derived.Handy
namespace Go.Proofs.Ytdbfjcdglcagaaa
open Go.RowKit Go.Maps Bk

abbrev HT : TypeId := 25
abbrev MT : TypeId := 44
theorem keyH : Keyed Try.prog HT := int_keyed Try.underlying25
theorem zeroPg (w : World) : (zeroValue 43).run Try.prog w = .ok (.agg #[.int .i64 0, .int .i64 0, .int .i64 0, .int .i64 0, .int .i64 0, .int .i64 0, .int .i64 0, .int .i64 0, .int .i64 0, .int .i64 0, .int .i64 0, .int .i64 0, .int .i64 0]) w := by kernel_rfl
theorem zeroInt (w : World) : (zeroValue 3).run Try.prog w = .ok (.int .i64 0) w := by kernel_rfl
abbrev pZ : Value := (.agg #[.int .i64 0, .int .i64 0, .int .i64 0, .int .i64 0, .int .i64 0, .int .i64 0, .int .i64 0, .int .i64 0, .int .i64 0, .int .i64 0, .int .i64 0, .int .i64 0, .int .i64 0])

section
variable {P : Program} {w : World} {ops : Array Oper} {rest : List Oper} {o : Oper} {a : Act} {Q : Exit → Act → World → Prop}
/-- A look-up whose answer is known. -/
theorem wpList_vlook (hg : o.guard = none) (m x : Operand) (t : TypeId) (c : Bool) (hop : o.op = Op.lookup t m x c) (b : Nat) (hm : a.eval m = .map (some b)) (key v : Value) (hx : a.eval x = key)
    (hrun : (Instr.lookup t (.map (some b)) key c).run P w = .ok v w) (hK : wpList P ops Q rest (a.put o.dst v) w) : wpList P ops Q (o :: rest) a w := by
  refine wpList_plain hg fun K' hK' => ?_
  unfold Oper.wp
  simp [execOp, hop, hm, hx, hrun, Result.andThen]
  exact hK' _ _ hK
theorem wpList_vput (hg : o.guard = none) (m x v : Operand) (t : TypeId) (hop : o.op = Op.mapUpdate t m x v) (k e : TypeId) (K : Keyed P k) (ht : P.underlying t = some (.map k e)) (hk : P.underlying k = some (.int .i64))
    (b n : Nat) (F : Int → Option Value) (hm : a.eval m = .map (some b)) (h : VMap P k w b F n) (hn : n < maxLen) (z : Int) (val : Value) (hx : a.eval x = .int .i64 z) (hv : a.eval v = val) (hz : I64 z)
    (hK : ∀ w', VMap P k w' b (fun y => if y = z then some val else F y) (if (F z).isSome then n else n + 1) → w.grownBy w' (some b) → wpList P ops Q rest (a.put o.dst undef) w') : wpList P ops Q (o :: rest) a w := by
  refine wpList_plain hg fun K' hK' => ?_
  obtain ⟨w', hrun, r1, r2⟩ := h.put K ht hk hn hz val
  unfold Oper.wp
  simp [execOp, hop, hm, hx, hv, hrun, Result.andThen]
  exact hK' _ _ (hK w' r1 r2)
theorem wpList_vdel (hg : o.guard = none) (m x : Operand) (t k : TypeId) (hop : o.op = Op.call { callee := Callee.builtin Builtin.delete, args := #[m, x], argTypes := #[t, k] }) (e : TypeId) (K : Keyed P k) (ht : P.underlying t = some (.map k e)) (hk : P.underlying k = some (.int .i64))
    (b n : Nat) (F : Int → Option Value) (hm : a.eval m = .map (some b)) (h : VMap P k w b F n) (z : Int) (hx : a.eval x = .int .i64 z) (hz : I64 z)
    (hK : ∀ w', VMap P k w' b (fun y => if y = z then none else F y) (if (F z).isSome then n - 1 else n) → w.grownBy w' (some b) → wpList P ops Q rest (a.put o.dst (.tuple #[])) w') : wpList P ops Q (o :: rest) a w := by
  refine wpList_plain hg fun K' hK' => ?_
  obtain ⟨w', hrun, r1, r2⟩ := h.del K ht hk hz o.type
  unfold Oper.wp
  simp [execOp, hop, resolve, invoke, builtin, hm, hx, hrun, Result.andThen]
  exact hK' _ _ (hK w' r1 r2)
theorem wpList_vrange (hg : o.guard = none) (m : Operand) (t : TypeId) (hop : o.op = Op.range t m) (k e : TypeId) (K : Keyed P k) (ht : P.underlying t = some (.map k e)) (hk : P.underlying k = some (.int .i64))
    (b n : Nat) (F : Int → Option Value) (hm : a.eval m = .map (some b)) (h : VMap P k w b F n)
    (hK : ∀ w', VRange P k w' b w.heap.size F (fun x => (F x).isSome) n → w.grownBy w' none → w'.heap.size = w.heap.size + 1 → wpList P ops Q rest (a.put o.dst (.pointer (some ⟨w.heap.size, 0, none⟩))) w') : wpList P ops Q (o :: rest) a w := by
  refine wpList_plain hg fun K' hK' => ?_
  obtain ⟨w', hrun, r1, r2, r3⟩ := h.range K ht hk
  unfold Oper.wp
  simp [execOp, hop, hm, hrun, Result.andThen]
  exact hK' _ _ (hK w' r1 r2 r3)
theorem wpList_vnext (hg : o.guard = none) (it : Operand) (hop : o.op = Op.next it false) (k : TypeId) (K : Keyed P k) (hk : P.underlying k = some (.int .i64)) (b r : Nat) (F : Int → Option Value) (lf : Int → Bool) (cnt : Nat)
    (hit : a.eval it = .pointer (some ⟨r, 0, none⟩)) (h : VRange P k w b r F lf cnt)
    (hDone : (∀ x, I64 x → lf x = false) → wpList P ops Q rest (a.put o.dst (.tuple #[.bool false])) w)
    (hMore : ∀ (x : Int) (v : Value) (w' : World) (cnt' : Nat), I64 x → lf x = true → F x = some v → VRange P k w' b r F (fun z => lf z && !decide (z = x)) cnt' → cnt' < cnt → w.grownBy w' (some r) → w'.heap.size = w.heap.size →
      (Instr.entry (.pointer (some ⟨r, 0, none⟩))).run P w' = .ok (.tuple #[.int .i64 x, v]) w' → wpList P ops Q rest (a.put o.dst (.tuple #[.bool true, .int .i64 x, v])) w') : wpList P ops Q (o :: rest) a w := by
  refine wpList_plain hg fun K' hK' => ?_
  unfold Oper.wp
  rcases h.next K hk o.type with ⟨h0, hrun⟩ | ⟨x, v, w', cnt', hx, hl, hF, hrun, hr, hlt, hg', hsz, hen⟩
  · simp [execOp, hop, hit, hrun, Result.andThen]
    exact hK' _ _ (hDone h0)
  · simp [execOp, hop, hit, hrun, Result.andThen]
    exact hK' _ _ (hMore x v w' cnt' hx hl hF hr hlt hg' hsz hen)
end

/-- The book in block b, its map in block mb. -/
structure PBk (w : World) (b mb : Nat) (L : List Ln) : Prop where
  blk : Has w b (.cells #[.map (some mb)] 46)
  map : VMap Try.prog HT w mb (FL L) L.length
theorem PBk.ne {w : World} {b mb : Nat} {L : List Ln} (h : PBk w b mb L) : mb ≠ b := by
  intro e
  obtain ⟨es, clock, hm⟩ := h.map.shape
  have hb := h.blk
  unfold Has at hb
  rw [e, hb] at hm
  cases hm
theorem PBk.lt {w : World} {b mb : Nat} {L : List Ln} (h : PBk w b mb L) : b < w.heap.size ∧ mb < w.heap.size := ⟨has_lt h.blk, h.map.lt⟩
theorem PBk.below {w w' : World} {b mb : Nat} {L : List Ln} (h : PBk w b mb L) (hb : Below w.heap.size w w') : PBk w' b mb L :=
  ⟨(hb.block b (has_lt h.blk)).trans h.blk, h.map.below hb⟩
theorem PBk.keeps {S : Nat → Prop} {w w' : World} {b mb : Nat} {L : List Ln} (h : PBk w b mb L) (hk : Keeps S w w') (h1 : ¬ S b) (h2 : ¬ S mb) : PBk w' b mb L :=
  ⟨(hk.block b (has_lt h.blk) h1).trans h.blk, h.map.keeps hk h2⟩
/-- The map written. -/
theorem PBk.turn {w w' : World} {b mb : Nat} {L M : List Ln} (h : PBk w b mb L) (hg : w.grownBy w' (some mb)) (hm : VMap Try.prog HT w' mb (FL M) M.length) : PBk w' b mb M :=
  ⟨(hg.block b (has_lt h.blk) (fun e => h.ne (by simpa using e.symm))).trans h.blk, hm⟩
theorem PBk.look_some {w : World} {b mb : Nat} {L : List Ln} (h : PBk w b mb L) {x : Ln} {k : Int} (hk : I64 k) (hx : getB L k = some x) :
    (Instr.lookup MT (.map (some mb)) (.int .i64 k) true).run Try.prog w = .ok (.tuple #[pV x, .bool true]) w ∧ (Instr.lookup MT (.map (some mb)) (.int .i64 k) false).run Try.prog w = .ok (pV x) w :=
  h.map.look_some keyH Try.underlying44 Try.underlying25 (zeroPg w) hk (by unfold FL; rw [hx]; rfl)
theorem PBk.look_none {w : World} {b mb : Nat} {L : List Ln} (h : PBk w b mb L) {k : Int} (hk : I64 k) (hx : getB L k = none) :
    (Instr.lookup MT (.map (some mb)) (.int .i64 k) true).run Try.prog w = .ok (.tuple #[pZ, .bool false]) w ∧ (Instr.lookup MT (.map (some mb)) (.int .i64 k) false).run Try.prog w = .ok pZ w :=
  h.map.look_none keyH Try.underlying44 Try.underlying25 (zeroPg w) hk (by unfold FL; rw [hx]; rfl)

set_option maxHeartbeats 1000000 in
theorem pfind_some (w : World) (b mb : Nat) (L : List Ln) (h : PBk w b mb L) (k : Int) (hk : I64 k) (x : Ln) (hx : getB L k = some x) :
    Calls Try.prog 12 #[.pointer (some ⟨b, 0, none⟩), .int .i64 k] w fun e w' => e = .returned (.tuple #[pV x, .nilIface]) ∧ Below w.heap.size w w' := by
  have hlt := h.lt
  have c0 := has_cell h.blk 0
  simp only [List.getElem?_toArray, List.getElem?_cons_zero] at c0
  have HL := Lib.hid (fun W (hb : Below w.heap.size w W) => ((h.below hb).look_some hk hx).1)
  clear h hk hx
  go_enter Try.func12, Try.ntmps12
  go_wp2_with (at_lookup; refine wpList_vlook rfl _ _ _ true rfl mb rfl _ _ rfl (HL.out _ (by repeat (first | exact Below.refl _ _ | (with_reducible assumption) | refine Below.drew ?_ | (refine Below.alloc ?_ (by first | exact Nat.le_refl _ | omega | (simp; done) | (simp; omega)) _) | (refine Below.setCell ?_ (by first | omega | (simp; done) | (simp; omega)) _)))) ?_)
  refine bodyPost_ret (v := .tuple #[pV x, .nilIface]) (by simp [results, Try.results12, go_sem]) rfl ⟨rfl, (by repeat (first | exact Below.refl _ _ | (with_reducible assumption) | refine Below.drew ?_ | (refine Below.alloc ?_ (by first | exact Nat.le_refl _ | omega | (simp; done) | (simp; omega)) _) | (refine Below.setCell ?_ (by first | omega | (simp; done) | (simp; omega)) _)))⟩
set_option maxHeartbeats 1000000 in
theorem pfind_none (w : World) (b mb : Nat) (L : List Ln) (h : PBk w b mb L) (k : Int) (hk : I64 k) (hx : getB L k = none) :
    Calls Try.prog 12 #[.pointer (some ⟨b, 0, none⟩), .int .i64 k] w fun e w' => e = .returned (.tuple #[pZ, errV 20]) ∧ Below w.heap.size w w' := by
  have hlt := h.lt
  have c0 := has_cell h.blk 0
  simp only [List.getElem?_toArray, List.getElem?_cons_zero] at c0
  have HL := Lib.hid (fun W (hb : Below w.heap.size w W) => ((h.below hb).look_none hk hx).1)
  clear h hk hx
  go_enter Try.func12, Try.ntmps12
  go_wp2_with (at_lookup; refine wpList_vlook rfl _ _ _ true rfl mb rfl _ _ rfl (HL.out _ (by repeat (first | exact Below.refl _ _ | (with_reducible assumption) | refine Below.drew ?_ | (refine Below.alloc ?_ (by first | exact Nat.le_refl _ | omega | (simp; done) | (simp; omega)) _) | (refine Below.setCell ?_ (by first | omega | (simp; done) | (simp; omega)) _)))) ?_)
  refine bodyPost_ret (v := .tuple #[pZ, errV 20]) (by simp [results, Try.results12, go_sem, errV]) rfl ⟨rfl, (by repeat (first | exact Below.refl _ _ | (with_reducible assumption) | refine Below.drew ?_ | (refine Below.alloc ?_ (by first | exact Nat.le_refl _ | omega | (simp; done) | (simp; omega)) _) | (refine Below.setCell ?_ (by first | omega | (simp; done) | (simp; omega)) _)))⟩
set_option maxHeartbeats 1000000 in
theorem pnew0 (w : World) :
    Calls Try.prog 4 #[.int .i64 0] w fun e w' => e = .returned (.pointer none) ∧ w = w' := by
  go_enter Try.func4, Try.ntmps4
  go_wp2
  go_ret
  exact ⟨rfl, rfl⟩
set_option maxHeartbeats 1000000 in
set_option maxRecDepth 100000 in
theorem pnew (w : World) (root : Int) (hr : I64 root) (h0 : root ≠ 0) :
    Calls Try.prog 4 #[.int .i64 root] w fun e w' => ∃ b mb, e = .returned (.pointer (some ⟨b, 0, none⟩)) ∧ PBk w' b mb [⟨root, 0, z6, z6⟩] ∧ w.heap.size ≤ b ∧ w.heap.size ≤ mb ∧ Below w.heap.size w w' := by
  have hmm := @run_makeMap Try.prog
  have z0 : (root == 0) = false := by simpa using h0
  obtain ⟨w1, hrun, hm1, hg1⟩ := (VMap.new (P := Try.prog) (k := HT) w).put keyH Try.underlying44 Try.underlying25 (by unfold maxLen; omega) hr (.agg #[.int .i64 0, .int .i64 0, .int .i64 0, .int .i64 0, .int .i64 0, .int .i64 0, .int .i64 0, .int .i64 0, .int .i64 0, .int .i64 0, .int .i64 0, .int .i64 0, .int .i64 0])
  have hbB : Below w.heap.size w w1 := ((Below.refl _ w).alloc (Nat.le_refl _) _).grown hg1 (by simp) (fun k e => by cases e; exact Nat.le_refl _)
  have hB := Lib.hid hbB
  have HM := Lib.hid (show VMap Try.prog HT w1 w.heap.size (FL [⟨root, 0, z6, z6⟩]) 1 from hm1.congr fun x _ => by
    unfold FL getB getB
    by_cases e : x = root
    · rw [if_pos e, if_pos e.symm]; rfl
    · rw [if_neg e, if_neg (fun k => e k.symm)]; rfl)
  have hz := Lib.hid hbB.size
  clear h0 hr hm1 hg1 hbB
  go_enter Try.func4, Try.ntmps4
  go_wp2_with fail
  go_ret
  have hb := hB.out
  refine ⟨_, w.heap.size, rfl, ⟨has_new _ _ _ rfl, ?_⟩, ?_, Nat.le_refl _, ?_⟩
  · exact HM.out.below ((Below.refl _ _).alloc (Nat.le_refl _) _)
  · exact hz.out
  · exact hb.alloc hz.out _
end Go.Proofs.Ytdbfjcdglcagaaa
