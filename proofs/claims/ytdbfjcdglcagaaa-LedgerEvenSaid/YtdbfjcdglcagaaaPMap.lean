/- A map keyed by numbers as a function from keys to values: made, read, written, deleted from, gone over; no function of the program is walked; no condition but those that each row names. -/
import Derived.Test.YtdbfjcdglcagaaaNKeep
import Derived.Maps.OwnOps
import Derived.Maps.OwnSet
import Derived.Maps.Range
import Derived.Maps.RangeWalk
namespace Go.Proofs.Ytdbfjcdglcagaaa
open Go.RowKit Go.Maps Go.WideShapes

/-- Numbers of 64 bits. -/
def I64 (x : Int) : Prop := -9223372036854775808 ≤ x ∧ x ≤ 9223372036854775807
theorem I64.wf {x : Int} (h : I64 x) : (Lit.int .i64 x).wf = true := WalkArith.wf_i64 (by unfold I64 at h; omega)
theorem I64.of_wf {x : Int} (h : (Lit.int .i64 x).wf = true) : I64 x := by
  simp [Lit.wf, IntKind.min, IntKind.max, IntKind.signed, IntKind.bits] at h
  unfold I64
  omega
/-- An element reads as itself. -/
def rdV (v : Value) : Option (DataW Value × List MemPlace) := some (.held v, [])
abbrev ky (x : Int) : Lit := .int .i64 x
theorem ky_key (x : Int) : WideAt.IsKeyLit (ky x) := trivial
theorem ky_ne {x y : Int} (h : x ≠ y) : ky x ≠ ky y := fun e => h (by cases e; rfl)
def unheld : DataW Value → Option Value
  | .held v => some v
  | _ => none
/-- What a map's datum holds at a number. -/
def lookD (D : DataW Value) (x : Int) : Option Value := if Maps.has D (ky x) then unheld (D.atKey (ky x) .nil) else none

variable {P : Program} {k : TypeId}

theorem own_tight {w : World} {b n : Nat} {D : DataW Value} (h : w.ownsMap P k rdV b n D) : w.ownsMap P k rdV b (Maps.size D) D := by
  obtain ⟨es, clock, hb, F, hs, rfl⟩ := h
  refine ⟨es, clock, hb, F, ?_, rfl⟩
  have : Maps.size (DataW.map ((es.toList.map (WideElems.rg P k rdV)).foldr DataW.insert [])) = es.size := by simp [Maps.size, length_sorted]
  omega
theorem entry_val {w : World} {b n : Nat} {D : DataW Value} (h : w.ownsMap P k rdV b n D) (K : Keyed P k) (hk : P.underlying k = some (.int .i64)) {x : Int} (hx : I64 x) (hh : Maps.has D (ky x) = true) : ∃ v, ∀ z, D.atKey (ky x) z = .held v := by
  obtain ⟨es, clock, hb, F, _, rfl⟩ := h
  have hkey := keyOf_int_mk (P := P) hk hx.wf
  obtain ⟨p, hp, hpk⟩ := List.any_eq_true.1 hh
  obtain ⟨e0, he0, rfl⟩ := List.mem_map.1 (mem_sorted.1 hp)
  obtain ⟨y, hy⟩ := F.reads e0 he0
  obtain ⟨z, hz, hzd⟩ := WideElems.rd_val hy
  have hat := atKey_sorted (es.toList.map (WideElems.rg P k rdV)) (Maps.fit_rising K F) (ky x) (K.key hkey)
  refine ⟨e0.val, fun zd => ?_⟩
  rw [hat.2 (WideElems.rg P k rdV e0) (List.mem_map.2 ⟨e0, he0, rfl⟩) (WideAt.sameKey_eq hpk), WideElems.rg_of hy, hzd]
  unfold rdV at hz
  cases hz
  rfl

/-- Block b is a map of n entries that holds at each number what F says. -/
def VMap (P : Program) (k : TypeId) (w : World) (b : Nat) (F : Int → Option Value) (n : Nat) : Prop :=
  ∃ D : DataW Value, w.ownsMap P k rdV b n D ∧ Maps.size D = n ∧ ∀ x, I64 x → lookD D x = F x
theorem VMap.lt {w : World} {b n : Nat} {F : Int → Option Value} (h : VMap P k w b F n) : b < w.heap.size := by
  obtain ⟨D, ho, _⟩ := h; exact ho.lt
theorem VMap.kept {w w' : World} {row : Option Nat} {b n : Nat} {F : Int → Option Value} (h : VMap P k w b F n) (hg : w.grownBy w' row) (hne : some b ≠ row) : VMap P k w' b F n := by
  obtain ⟨D, ho, r⟩ := h; exact ⟨D, ho.kept hg hne, r⟩
theorem VMap.same {w w' : World} {b n : Nat} {F : Int → Option Value} (h : VMap P k w b F n) (e : w'.heap[b]? = w.heap[b]?) : VMap P k w' b F n := by
  obtain ⟨D, ⟨es, clock, hb, r⟩, s⟩ := h
  exact ⟨D, ⟨es, clock, e.trans hb, r⟩, s⟩
theorem VMap.below {w w' : World} {b n : Nat} {F : Int → Option Value} (h : VMap P k w b F n) (hb : Below w.heap.size w w') : VMap P k w' b F n := h.same (hb.block b h.lt)
theorem VMap.keeps {S : Nat → Prop} {w w' : World} {b n : Nat} {F : Int → Option Value} (h : VMap P k w b F n) (hk : Keeps S w w') (hn : ¬ S b) : VMap P k w' b F n := h.same (hk.block b h.lt hn)
theorem VMap.congr {w : World} {b n : Nat} {F G : Int → Option Value} (h : VMap P k w b F n) (e : ∀ x, I64 x → F x = G x) : VMap P k w b G n := by
  obtain ⟨D, ho, hs, hl⟩ := h; exact ⟨D, ho, hs, fun x hx => (hl x hx).trans (e x hx)⟩
theorem VMap.new (w : World) : VMap P k (w.alloc (.map #[] 0)) w.heap.size (fun _ => none) 0 :=
  ⟨.map [], World.ownsMap_made w P k rdV, rfl, fun _ _ => rfl⟩
theorem VMap.shape {w : World} {b n : Nat} {F : Int → Option Value} (h : VMap P k w b F n) : ∃ es clock, w.heap[b]? = some (.map es clock) := by
  obtain ⟨D, ⟨es, clock, hb, _⟩, _⟩ := h; exact ⟨es, clock, hb⟩
/-- The same map in another block. -/
theorem VMap.copy {w w' : World} {b b' n : Nat} {F : Int → Option Value} (h : VMap P k w b F n) (e : w'.heap[b']? = w.heap[b]?) : VMap P k w' b' F n := by
  obtain ⟨D, ⟨es, clock, hb, r⟩, s⟩ := h
  exact ⟨D, ⟨es, clock, e.trans hb, r⟩, s⟩

section
variable {t e : TypeId} (K : Keyed P k) (ht : P.underlying t = some (.map k e)) (hk : P.underlying k = some (.int .i64))
include K ht hk
theorem VMap.look_some {w : World} {b n : Nat} {F : Int → Option Value} (h : VMap P k w b F n) {z : Value} (hz : (zeroValue e).run P w = .ok z w) {x : Int} (hx : I64 x) {v : Value} (hF : F x = some v) :
    (Instr.lookup t (.map (some b)) (.int .i64 x) true).run P w = .ok (.tuple #[v, .bool true]) w ∧ (Instr.lookup t (.map (some b)) (.int .i64 x) false).run P w = .ok v w := by
  obtain ⟨D, ho, hs, hl⟩ := h
  have hkey := keyOf_int_mk (P := P) hk hx.wf
  have h1 := hl x hx
  rw [hF] at h1
  unfold lookD at h1
  split at h1
  · rename_i hh
    obtain ⟨u, hu⟩ := entry_val ho K hk hx hh
    rw [hu] at h1
    cases h1
    obtain ⟨v1, ps, r1, e1⟩ := ho.look_ok K ht hz (zd := .held z) (zp := []) rfl hkey
    obtain ⟨v2, ps2, r2, e2⟩ := ho.lookup K ht hz (zd := .held z) (zp := []) rfl hkey
    rw [hu] at e1 e2
    unfold rdV at e1 e2
    cases e1; cases e2
    rw [hh] at r1
    exact ⟨r1, r2⟩
  · cases h1
theorem VMap.look_none {w : World} {b n : Nat} {F : Int → Option Value} (h : VMap P k w b F n) {z : Value} (hz : (zeroValue e).run P w = .ok z w) {x : Int} (hx : I64 x) (hF : F x = none) :
    (Instr.lookup t (.map (some b)) (.int .i64 x) true).run P w = .ok (.tuple #[z, .bool false]) w ∧ (Instr.lookup t (.map (some b)) (.int .i64 x) false).run P w = .ok z w := by
  obtain ⟨D, ho, hs, hl⟩ := h
  have hkey := keyOf_int_mk (P := P) hk hx.wf
  have h1 := hl x hx
  rw [hF] at h1
  unfold lookD at h1
  split at h1
  · rename_i hh
    obtain ⟨u, hu⟩ := entry_val ho K hk hx hh
    rw [hu] at h1
    cases h1
  · rename_i hh
    have hh : Maps.has D (ky x) = false := by simpa using hh
    obtain ⟨es, clock, hb, F, _, rfl⟩ := ho
    refine ⟨?_, ?_⟩
    · rcases Maps.fit_look true K ht hz hb F hkey with ⟨hrun, _, hat⟩ | ⟨e0, y, _, _, hrun, hRv, hat, _⟩
      · exact hrun
      · rw [Maps.has_true_of_atKey hat] at hh; cases hh
    · rcases Maps.fit_look false K ht hz hb F hkey with ⟨hrun, _, hat⟩ | ⟨e0, y, _, _, hrun, hRv, hat, _⟩
      · exact hrun
      · rw [Maps.has_true_of_atKey hat] at hh; cases hh
theorem VMap.look_get {w : World} {b n : Nat} {F : Int → Option Value} (h : VMap P k w b F n) {z : Value} (hz : (zeroValue e).run P w = .ok z w) {x : Int} (hx : I64 x) {v : Value} (hv : (F x).getD z = v) :
    (Instr.lookup t (.map (some b)) (.int .i64 x) false).run P w = .ok v w := by
  cases hF : F x with
  | none => rw [hF] at hv; subst hv; exact (h.look_none K ht hk hz hx hF).2
  | some u => rw [hF] at hv; subst hv; exact (h.look_some K ht hk hz hx hF).2
theorem VMap.put {w : World} {b n : Nat} {F : Int → Option Value} (h : VMap P k w b F n) (hn : n < maxLen) {x : Int} (hx : I64 x) (v : Value) :
    ∃ w', (Instr.mapUpdate t (.map (some b)) (.int .i64 x) v).run P w = .ok () w' ∧ VMap P k w' b (fun y => if y = x then some v else F y) (if (F x).isSome then n else n + 1) ∧ w.grownBy w' (some b) := by
  obtain ⟨D, ho, hs, hl⟩ := h
  have hkey := keyOf_int_mk (P := P) hk hx.wf
  obtain ⟨w', hrun, ho', hg⟩ := ho.update K ht hn hkey (d := .held v) (ps := []) rfl
  have hm := ho.isMap
  have e1 : (F x).isSome = Maps.has D (ky x) := by
    rw [← hl x hx]
    unfold lookD
    cases hh : Maps.has D (ky x)
    · rfl
    · obtain ⟨u, hu⟩ := entry_val ho K hk hx hh
      rw [hu]; rfl
  have hsz : Maps.size (D.put (ky x) (.held v)) = (if (F x).isSome then n else n + 1) := by
    rw [size_put (ho.tidy K), hs, e1]
  refine ⟨w', hrun, ⟨_, by rw [← hsz]; exact own_tight ho', hsz, fun y hy => ?_⟩, hg⟩
  by_cases e : y = x
  · subst e
    show lookD (D.put (ky y) (.held v)) y = if y = y then some v else F y
    rw [if_pos rfl]
    unfold lookD
    rw [has_put_same hm (ky_key y), atKey_put_same hm (ky_key y)]
    rfl
  · show lookD (D.put (ky x) (.held v)) y = if y = x then some v else F y
    rw [if_neg e, ← hl y hy]
    unfold lookD
    rw [has_put_other (ky_ne e), atKey_put_other (ky_ne e)]
theorem VMap.del {w : World} {b n : Nat} {F : Int → Option Value} (h : VMap P k w b F n) {x : Int} (hx : I64 x) (ty : TypeId) :
    ∃ w', (Builtin.delete_ #[t, k] ty #[.map (some b), .int .i64 x]).run P w = .ok (.tuple #[]) w' ∧ VMap P k w' b (fun y => if y = x then none else F y) (if (F x).isSome then n - 1 else n) ∧ w.grownBy w' (some b) := by
  obtain ⟨D, ho, hs, hl⟩ := h
  have hkey := keyOf_int_mk (P := P) hk hx.wf
  obtain ⟨w', hrun, ho', hg⟩ := ho.drop K ht hkey ty
  have e1 : (F x).isSome = Maps.has D (ky x) := by
    rw [← hl x hx]
    unfold lookD
    cases hh : Maps.has D (ky x)
    · rfl
    · obtain ⟨u, hu⟩ := entry_val ho K hk hx hh
      rw [hu]; rfl
  have hsz : Maps.size (D.del (ky x)) = (if (F x).isSome then n - 1 else n) := by
    have := size_del (k := ky x) (ho.tidy K)
    rw [hs, ← e1] at this
    split at this
    · rename_i hi; rw [if_pos hi]; omega
    · rename_i hi; rw [if_neg hi]; omega
  refine ⟨w', hrun, ⟨_, by rw [← hsz]; exact own_tight ho', hsz, fun y hy => ?_⟩, hg.grown⟩
  by_cases e : y = x
  · subst e
    show lookD (D.del (ky y)) y = if y = y then none else F y
    rw [if_pos rfl]
    unfold lookD
    rw [has_del_same]
    rfl
  · show lookD (D.del (ky x)) y = if y = x then none else F y
    rw [if_neg e, ← hl y hy]
    unfold lookD
    rw [has_del_other (ky_ne e), atKey_del_other (ky_ne e)]
end

/-- A map under way: which numbers are still to come. -/
def VRange (P : Program) (k : TypeId) (w : World) (b r : Nat) (F : Int → Option Value) (lf : Int → Bool) (cnt : Nat) : Prop :=
  ∃ (D : DataW Value) (n : Nat) (left : Lit → Bool), w.ranges P k rdV b r n D left cnt ∧ (∀ x, I64 x → lookD D x = F x) ∧ ∀ x, I64 x → left (ky x) = lf x
theorem VRange.lt {w : World} {b r cnt : Nat} {F : Int → Option Value} {lf : Int → Bool} (h : VRange P k w b r F lf cnt) : r < w.heap.size ∧ b < w.heap.size ∧ r ≠ b := by
  obtain ⟨D, n, left, hr, _⟩ := h; exact ⟨hr.lt, hr.owns.lt, hr.ne⟩
theorem VRange.kept {w w' : World} {row : Option Nat} {b r cnt : Nat} {F : Int → Option Value} {lf : Int → Bool} (h : VRange P k w b r F lf cnt) (hg : w.grownBy w' row) (h1 : some b ≠ row) (h2 : some r ≠ row) : VRange P k w' b r F lf cnt := by
  obtain ⟨D, n, left, hr, rest⟩ := h; exact ⟨D, n, left, hr.kept hg h1 h2, rest⟩
theorem VRange.alloc {w : World} {b r cnt : Nat} {F : Int → Option Value} {lf : Int → Bool} (h : VRange P k w b r F lf cnt) (o : Obj) : VRange P k (w.alloc o) b r F lf cnt := h.kept (World.grownBy_alloc w o none) (by simp) (by simp)
theorem VRange.left_eq {w : World} {b r cnt : Nat} {F : Int → Option Value} {lf : Int → Bool} (h : VRange P k w b r F lf cnt) : w.rangeLeft b r = cnt := by
  obtain ⟨D, n, left, hr, _⟩ := h; exact hr.left_eq
theorem VRange.congr {w : World} {b r cnt : Nat} {F : Int → Option Value} {lf lg : Int → Bool} (h : VRange P k w b r F lf cnt) (e : ∀ x, I64 x → lf x = lg x) : VRange P k w b r F lg cnt := by
  obtain ⟨D, n, left, hr, hl, hf⟩ := h; exact ⟨D, n, left, hr, hl, fun x hx => (hf x hx).trans (e x hx)⟩
section
variable {t e : TypeId} (K : Keyed P k) (ht : P.underlying t = some (.map k e)) (hk : P.underlying k = some (.int .i64))
include K ht hk
theorem VMap.range {w : World} {b n : Nat} {F : Int → Option Value} (h : VMap P k w b F n) :
    ∃ w', (Instr.range t (.map (some b))).run P w = .ok (.pointer (some ⟨w.heap.size, 0, none⟩)) w' ∧ VRange P k w' b w.heap.size F (fun x => (F x).isSome) n ∧ w.grownBy w' none ∧ w'.heap.size = w.heap.size + 1 := by
  obtain ⟨D, ho, hs, hl⟩ := h
  obtain ⟨w', hrun, hr, hg, hz⟩ := ho.range K ht
  rw [hs] at hr
  refine ⟨w', hrun, ⟨D, n, _, hr, hl, fun x hx => ?_⟩, hg, hz⟩
  show Maps.has D (ky x) = (F x).isSome
  rw [← hl x hx]
  unfold lookD
  cases hh : Maps.has D (ky x)
  · rfl
  · obtain ⟨u, hu⟩ := entry_val ho K hk hx hh
    rw [hu]; rfl
omit ht in
theorem VRange.next {w : World} {b r cnt : Nat} {F : Int → Option Value} {lf : Int → Bool} (h : VRange P k w b r F lf cnt) (ty : TypeId) :
    ((∀ x, I64 x → lf x = false) ∧ (Instr.next (.pointer (some ⟨r, 0, none⟩)) false ty).run P w = .ok (.tuple #[.bool false]) w) ∨
    ∃ x v w' cnt', I64 x ∧ lf x = true ∧ F x = some v ∧ (Instr.next (.pointer (some ⟨r, 0, none⟩)) false ty).run P w = .ok (.tuple #[.bool true, .int .i64 x, v]) w' ∧
      VRange P k w' b r F (fun z => lf z && !decide (z = x)) cnt' ∧ cnt' < cnt ∧ w.grownBy w' (some r) ∧ w'.heap.size = w.heap.size ∧ (Instr.entry (.pointer (some ⟨r, 0, none⟩))).run P w' = .ok (.tuple #[.int .i64 x, v]) w' := by
  obtain ⟨D, n, left, hr, hl, hf⟩ := h
  rcases hr.next K ty with ⟨_, h0, hrun⟩ | ⟨key, v, kl, y, w', cnt', hkey, hlk, hv, hat, hrun, hr', hlt, hg, hsz, hen⟩
  · exact .inl ⟨fun x hx => by rw [← hf x hx]; exact h0 _, hrun⟩
  · obtain ⟨x, rfl, rfl, hw⟩ := Maps.keyOf_int_inv hk hkey
    have hx := I64.of_wf hw
    have hFx : F x = some v := by
      rw [← hl x hx]
      unfold lookD
      unfold rdV at hv
      cases hv
      rw [Maps.has_true_of_atKey hat, hat]
      rfl
    refine .inr ⟨x, v, w', cnt', hx, by rw [← hf x hx]; exact hlk, hFx, hrun, ⟨D, n, _, hr', hl, fun z hz => ?_⟩, hlt, hg, hsz, hen⟩
    show (left (ky z) && !(ky z).sameKey (ky x)) = _
    rw [hf z hz]
    congr 2
    by_cases e : z = x
    · subst e; rw [WideAt.sameKey_self (ky_key z)]; simp
    · rw [sameKey_ne (ky_ne e)]; simp [e]
end
end Go.Proofs.Ytdbfjcdglcagaaa
